/- Contract of the document's Bytes. -/
import Derived.Test.YtillckjohlbaiaaFget
import Derived.Deep.RegionHeld3

namespace Go.Proofs.Ytillckjohlbaiaa
set_option maxRecDepth 100000
open Go.RowKit

/-- A number's bytes, so many, the lowest one first. -/
def Fd.le (k n : Nat) : List Nat := (List.range k).map fun j => n / 256 ^ j % 256
theorem Fd.le_succ (k n : Nat) : Fd.le (k + 1) n = Fd.le k n ++ [n / 256 ^ k % 256] := by simp [Fd.le, List.range_succ]
theorem Fd.le_length (k n : Nat) : (Fd.le k n).length = k := by simp [Fd.le]
theorem Fd.le_byte (k n : Nat) : ∀ x ∈ Fd.le k n, x < 256 := by
  intro x hx
  simp only [Fd.le, List.mem_map] at hx
  obtain ⟨j, _, rfl⟩ := hx
  exact Nat.mod_lt _ (by decide)

/-- append of one byte onto the call's own row, in a region that goes in one order. -/
theorem wpList_append_byte {ops : Array Oper} {rest : List Oper} {o : Oper} {a : Act} {w : World} {Q : Exit → Act → World → Prop} (hgd : o.guard = none) (s x : Operand)
    (ho : o.op = .call { callee := .builtin .append, args := #[s, x], argTypes := #[22, 22] })
    (base : Nat) (v : Value) (n : Nat) (bs : List Nat) (hs : a.eval s = v) (hown : w.ownsRow base 5 1 v n (vb bs))
    (g y : Nat) (hx : a.eval x = .slice (some ⟨g, 0, none⟩) 1 1) (hc : w.cell? ⟨g, 0, none⟩ = some (.int .u8 (y : Int))) (b1 : n + 1 ≤ 140737488355328) (hbase : base ≤ w.heap.size)
    (h : ∀ v' w', Hid (w'.ownsRow base 5 1 v' (n + 1) (vb (bs ++ [y]))) → Hid (w.grownBy w' v.ownBlock) → wpList Try.prog ops Q rest (a.put o.dst v') w') :
    wpList Try.prog ops Q (o :: rest) a w := by
  obtain ⟨i0, hi, hz0, hz1, hz2⟩ := info_parts Try.infoU8
  refine wpList_append_own w hgd s x 22 ho base 5 i0 (.int .u8 0) 1 1 Try.underlying22 hi hz0 hz1 hz2 rfl (by decide) v n (vb bs) hs hown ⟨g, 0, none⟩ 1 1 [.int .u8 (y : Int)] hx rfl ?_ ?_ (by unfold maxLen; omega) (by omega) hbase ?_
  · intro j u hj
    match j, hj with
    | 0, hj =>
      simp at hj
      subst hj
      simpa [Addr.add] using hc
  · intro u hu
    simp at hu
    subst hu
    rfl
  · intro v' w' h2 h3 _
    refine h v' w' ?_ h3
    show World.ownsRow _ _ _ _ _ _ _
    rw [vb_append]
    exact h2

theorem own_shape {w : World} {base : Nat} {e : TypeId} {size : Nat} {v : Value} {n : Nat} {xs : List Value} (h : w.ownsRow base e size v n xs) : ∃ a cap, v = .slice a n cap := by
  rcases h.2 with ⟨rfl, rfl⟩ | ⟨g, cap, cur, rfl, _⟩
  · exact ⟨_, _, rfl⟩
  · exact ⟨_, _, rfl⟩

set_option maxHeartbeats 2000000 in
theorem bytes_walk (n k : Nat) (hn : n < 9223372036854775808) (hk : k ≤ 8) (w : World) :
    Calls Try.prog 58 #[.int .i64 (n : Int), .int .i64 (k : Int)] w fun e w' => ∃ a' cap', e = .returned (.slice a' k cap') ∧ Mine w' w.heap.size a' k cap' (Fd.le k n) ∧ Below w.heap.size w w' := by
  go_enter Try.func58, Try.ntmps58
  go_wp2_with fail
  go_loopw [0, 5, 6] (fun s0 s5 s6 wr => ∃ j m : Nat, s6 = .int .i64 (j : Int) ∧ j ≤ k ∧ s0 = .int .i64 (m : Int) ∧ m < 9223372036854775808 ∧ Hid (m = n / 256 ^ j) ∧ Hid (wr.ownsRow w.heap.size 5 1 s5 j (vb (Fd.le j n))) ∧ Hid (Below w.heap.size w wr)) (fun _ _ s _ => k - (intOf s).toNat)
  case atStart => exact ⟨0, n, rfl, Nat.zero_le _, rfl, hn, by show _ = _; simp, ⟨rfl, Or.inl ⟨rfl, rfl⟩⟩, Below.refl _ _⟩
  case round =>
    obtain ⟨j, m, rfl, hj, rfl, hm, KM, KO, KB⟩ := hrel
    by_cases hlt : j < k
    · obtain ⟨y, hy⟩ : ∃ y, y = m % 256 := ⟨_, rfl⟩
      have hye : ((m : Int) % 256) = (y : Int) := by omega
      have A1 : Hid _ := KO.out.alloc (.cells #[.int .u8 (y : Int)] 5)
      have A2 : Hid ((wr.alloc (.cells #[.int .u8 (y : Int)] 5)).cell? ⟨wr.heap.size, 0, none⟩ = some (.int .u8 (y : Int))) := (Has.new wr (.cells #[.int .u8 (y : Int)] 5)).one.1
      have A4 : Hid (Below w.heap.size w (wr.alloc (.cells #[.int .u8 (y : Int)] 5))) := KB.out.alloc KB.out.size _
      have HE : Hid (Fd.le (j + 1) n = Fd.le j n ++ [y]) := by show _ = _; rw [Fd.le_succ, hy, KM.out]
      have HM : Hid (m / 256 = n / 256 ^ (j + 1)) := by show _ = _; rw [KM.out, Nat.pow_succ, Nat.div_div_eq_div_mul]
      have hq : ((m : Int) / 256) = ((m / 256 : Nat) : Int) := by omega
      have hm2 : m / 256 < 9223372036854775808 := by omega
      generalize m / 256 = m2 at *
      clear KM KO KB hy
      go_wp2_with (at_builtin; (refine wpList_append_byte rfl (.tmp 12) (.tmp 16) rfl w.heap.size _ j (Fd.le j n) rfl A1.out wr.heap.size y rfl A2.out (by omega) A4.out.size ?_; intro v' w' ho hg; have hb := Lib.hid (A4.out.grown hg.out A4.out.size (fun q hq => (World.ownsRow.lt A1.out q hq).1)); have hO : Hid (w'.ownsRow w.heap.size 5 1 v' (j + 1) (vb (Fd.le (j + 1) n))) := (by show World.ownsRow _ _ _ _ _ _ _; rw [HE.out]; exact ho.out); clear ho hg))
      go_roundw
      case rel => exact ⟨j + 1, m2, by go_num, by omega, rfl, hm2, HM, hO, hb⟩
      case measure => simp [intOf]; omega
    · obtain rfl : j = k := by omega
      obtain ⟨a', cap', rfl⟩ := own_shape KO.out
      go_wp2_with fail
      go_ret
      exact ⟨_, _, rfl, ⟨KO.out, (Fd.le_length _ _).symm, Fd.le_byte _ _⟩, KB.out⟩
end Go.Proofs.Ytillckjohlbaiaa
