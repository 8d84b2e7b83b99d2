/- Contracts of huff.isLone and of the iterator over used symbols whose lengths are lengths. -/
import Derived.Test.YtgffcffmhhdceaaHcodes
namespace Go.Proofs.Ytgffcffmhhdceaa
open Go.RowKit Go.Shelf

attribute [local go_sem] Oper.semAt_some

/-- Is one symbol alone used, by a code of one bit? -/
def Lone (ls : List Nat) : Prop := (Hf.ordl ls).length = 1 ∧ Hf.ln ls (Hf.sy ls 0) = 1
instance (ls : List Nat) : Decidable (Lone ls) := by unfold Lone; infer_instance

theorem il_shape {lo : Nat} {w : World} {v : Value} {xs : List Nat} (h : Il lo w v xs) : ∃ a cap, v = .slice a xs.length cap ∧ (0 < xs.length → ∃ g, a = some ⟨g, 0, none⟩ ∧ Rw w g xs.length (fun i => xs[i]?.getD 0)) := by
  rcases h with ⟨rfl, rfl⟩ | ⟨g, cap, e, _, hg, hr⟩
  · exact ⟨_, _, rfl, fun h => by simp at h⟩
  · exact ⟨_, _, e, fun _ => ⟨g, rfl, hr⟩⟩

set_option maxHeartbeats 1000000 in
theorem lone_any (zs : List Int) (s : Value) (w : World) (hz : Zl w s zs) (hv : Valid zs) :
    Calls Try.prog 37 #[s] w fun e w' => e = .returned (.bool (decide (Lone (nat zs)))) ∧ Below w.heap.size w w' := by
  have HO := ordered_any s (nat zs) w (hv.lsl hz (Nat.le_refl _)) (fun i hi => hv.le i hi)
  obtain ⟨b, off, cap, rfl, hpos, h288, hb, hcl⟩ := hv.lsl hz (Nat.le_refl _)
  have HCL := Lib.hid hcl
  clear hpos
  have hol := Hf.ordl_length_le (nat zs)
  obtain ⟨len, hlen⟩ : ∃ len, len = (nat zs).length := ⟨_, rfl⟩
  rw [← hlen] at HO hol h288 HCL ⊢
  have HLE := Lib.hid hlen
  clear hz hcl hlen
  go_enter Try.func37, Try.ntmps37
  go_wp2_with fail
  refine HO.mono ?_
  clear HO
  rintro e w2 ⟨v, rfl, hi, hb2⟩
  obtain ⟨a, cap2, rfl, ha⟩ := il_shape hi
  clear hi
  obtain ⟨n, hn⟩ : ∃ n, n = (Hf.ordl (nat zs)).length := ⟨_, rfl⟩
  rw [← hn] at ha hol ⊢
  have HN := Lib.hid hn
  have HB := Lib.hid hb2
  have HA := Lib.hid ha
  have hn3 : n ≤ 288 := by omega
  clear hn hb2 ha hol
  by_cases h1 : n = 1
  · obtain ⟨g, rfl, hr⟩ := HA.out (by omega)
    obtain ⟨x, hx⟩ : ∃ x, x = Hf.sy (nat zs) 0 := ⟨_, rfl⟩
    have c1 : w2.cell? ⟨g, 0, none⟩ = some (.int .i64 (x : Int)) := by
      have := hr.cell 0 (by omega)
      rw [this, hx]; rfl
    have hxl : x < len := by rw [hx, HLE.out]; exact (Hf.sy_mem (nat zs) 0 (by rw [← HN.out]; omega)).1
    have c2 : w2.cell? ⟨b, off + x, none⟩ = some (.int .i64 (((nat zs)[x]?.getD 0 : Nat) : Int)) := by
      rw [HB.out.cell (p := ⟨b, off + x, none⟩) hb]; exact HCL.out x hxl
    obtain ⟨y, hy⟩ : ∃ y, y = (nat zs)[x]?.getD 0 := ⟨_, rfl⟩
    rw [← hy] at c2
    have e1 : ((n : Int) == 1) = true := by rw [beq_iff_eq]; omega
    have hn1 : 0 < n := by omega
    by_cases h2 : y = 1
    · have e2 : ((y : Int) == 1) = true := by rw [beq_iff_eq]; omega
      have R : Hid (decide (Lone (nat zs)) = true) := decide_eq_true ⟨by rw [← HN.out]; exact h1, by rw [← hx]; show (nat zs)[x]?.getD 0 = 1; rw [← hy]; exact h2⟩
      clear hx hy h1 h2 hr HA
      go_wp2
      go_ret
      exact ⟨by rw [R.out]; rfl, HB.out⟩
    · have e2 : ((y : Int) == 1) = false := by rw [beq_eq_false_iff_ne]; omega
      have R : Hid (decide (Lone (nat zs)) = false) := decide_eq_false fun h => h2 (by rw [hy]; have := h.2; rw [← hx] at this; exact this)
      clear hx hy h1 h2 hr HA
      go_wp2
      go_ret
      exact ⟨by rw [R.out]; rfl, HB.out⟩
  · have e1 : ((n : Int) == 1) = false := by rw [beq_eq_false_iff_ne]; omega
    have R : Hid (decide (Lone (nat zs)) = false) := decide_eq_false fun h => h1 (by rw [HN.out]; exact h.1)
    clear h1 HA
    go_wp2
    go_ret
    exact ⟨by rw [R.out]; rfl, HB.out⟩

/-- A symbol and a number up to fifteen. -/
abbrev Us := { p : Nat × Nat // p.2 ≤ 15 }

set_option maxRecDepth 100000 in
set_option maxHeartbeats 2000000 in
theorem used2_in (n : Nat) (hn : 1 ≤ n) (l Bs n₀ : Nat) (sv : Value) (ls : List Nat) (h15 : ∀ i, i < ls.length → Hf.ln ls i ≤ 15) (J Jx : List Us → World → Prop)
    (hY : ∀ pre x W, J pre W → pre.length < ls.length → YieldAt Fence.wide (n - 1) Try.prog l #[.int .i64 (x.1.1 : Int), .int .i64 (x.1.2 : Int)] W fun e W' =>
      (e = .returned (.bool true) ∧ J (pre ++ [x]) W' ∧ Below n₀ W W') ∨ (e = .returned (.bool false) ∧ Jx (pre ++ [x]) W'))
    (W : World) (hBs : W.cell? ⟨Bs, 0, none⟩ = some sv) (hL : Lsl n₀ W sv ls) (h0 : J [] W) :
    CallsIn Fence.wide n Try.prog 52 #[.func (.yield l) #[] #[], .pointer (some ⟨Bs, 0, none⟩)] W fun e W' => (∃ v, e = .returned v) ∧
      ((∃ ys : List Us, ys.map Subtype.val = usedTo ls ls.length ∧ J ys W') ∨ (∃ pre, True ∧ Jx pre W')) := by
  obtain ⟨b, off, cap, rfl, hpos, h288, hb, hc⟩ := hL
  refine callsIn_of_wp Try.func52 rfl trivial ?_ rfl
  simp only [Try.ntmps52, List.size_toArray, List.length_cons, List.length_nil, Nat.reduceAdd, Nat.reduceSub, Array.replicate_succ, Array.replicate_zero, List.push_toArray, List.append_toArray, List.nil_append, List.cons_append]
  gi_wp2
  gi_loopw [7] (fun i wr => ∃ (k : Nat) (pre : List Us), k ≤ ls.length ∧ i = .int .i64 k ∧ Hid (pre.map Subtype.val = usedTo ls k) ∧ J pre wr ∧ Below n₀ W wr)
    (fun i _ => ls.length - (intOf i).toNat)
  case atStart => exact ⟨0, [], Nat.zero_le _, rfl, rfl, h0, Below.refl _ _⟩
  case round =>
    obtain ⟨k, pre, hk, rfl, KP, hJs, hnx⟩ := hrel
    by_cases hlt : k < ls.length
    · have hcx : wr.cell? ⟨b, off + k, none⟩ = some (.int .i64 ((ls[k]?.getD 0 : Nat) : Int)) := (hnx.cell (p := ⟨b, off + k, none⟩) hb).trans (hc k hlt)
      have h15k := h15 k hlt
      unfold Hf.ln at h15k
      obtain ⟨x, hx⟩ : ∃ x, x = ls[k]?.getD 0 := ⟨_, rfl⟩
      rw [← hx] at hcx h15k
      by_cases h0 : x = 0
      · have hst : pre.map Subtype.val = usedTo ls (k + 1) := by rw [KP.out]; simp [usedTo, ← hx, h0]
        have HST := Lib.hid hst
        subst h0
        clear hst hx
        gi_wp2
        refine ⟨fun _ h => (by cases h), ?_⟩
        gi_wp2
        go_roundw
        case rel => exact ⟨k + 1, pre, by omega, by simp, HST, hJs, hnx⟩
        case measure => simp [intOf]; omega
      · have hst : (pre ++ [(⟨(k, x), h15k⟩ : Us)]).map Subtype.val = usedTo ls (k + 1) := by rw [List.map_append, KP.out]; simp [usedTo, ← hx, h0]
        have HST := Lib.hid hst
        have hne : ((x : Int) != 0) = true := by rw [bne_iff_ne]; omega
        obtain ⟨fn, tmps, assign, body, hy, hR⟩ := hY pre ⟨(k, x), h15k⟩ wr hJs (by have h1 := usedTo_length ls k; have h2 := congrArg List.length KP.out; rw [List.length_map] at h2; omega)
        dsimp only at hy
        clear hst hx
        gi_wp2
        refine hR.mono ?_
        rintro e W3 (⟨rfl, hJ3, hk3⟩ | ⟨rfl, hJx3⟩)
        · gi_wp2
          go_roundw
          case rel => exact ⟨k + 1, _, by omega, by simp, HST, hJ3, hnx.trans hk3⟩
          case measure => simp [intOf]; omega
        · gi_wp2
          refine bodyPost_ret (results_none rfl _ _ _) rfl ?_
          exact ⟨⟨_, rfl⟩, .inr ⟨_, trivial, hJx3⟩⟩
    · obtain rfl : k = ls.length := by omega
      gi_wp2
      go_end0
      exact ⟨⟨_, rfl⟩, .inl ⟨_, KP.out, hJs⟩⟩

theorem used2_stops (n : Nat) (hn : 1 ≤ n) (Bs n₀ : Nat) (sv : Value) (ls : List Nat) (h15 : ∀ i, i < ls.length → Hf.ln ls i ≤ 15) (w : World) (hBs : Bs < w.heap.size) (hn₀ : n₀ ≤ w.heap.size)
    (hc : w.cell? ⟨Bs, 0, none⟩ = some sv) (hL : Lsl n₀ w sv ls) :
    SeqStopsK Fence.wide n Try.prog 52 #[.pointer (some ⟨Bs, 0, none⟩)] (fun x : Us => #[Value.int .i64 (x.1.1 : Int), Value.int .i64 (x.1.2 : Int)]) (Below n₀) (fun ys => ys.map Subtype.val = usedTo ls ls.length) (fun _ => True) ls.length w := fun l J Jx W hW _ _ hY h0 =>
  used2_in n hn l Bs n₀ sv ls h15 J Jx hY W ((hW.cell (p := ⟨Bs, 0, none⟩) hBs).trans hc) (hL.below (hW.mono hn₀)) h0
end Go.Proofs.Ytgffcffmhhdceaa
