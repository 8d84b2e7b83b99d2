/- Contract of the document's Bytes. -/
import Derived.Test.YthbiibinmofmfaaFget
import Derived.Test.YthbiibinmofmfaaEstr
import Derived.Test.YthbiibinmofmfaaCrc
import Derived.Deep.RegionHeld3

namespace Go.Proofs.Ythbiibinmofmfaa
set_option maxRecDepth 100000
open Go.RowKit

/-- A number's bytes, so many, the lowest one first. -/
def Fd.le (k n : Nat) : List Nat := (List.range k).map fun j => n / 256 ^ j % 256
theorem Fd.le_succ (k n : Nat) : Fd.le (k + 1) n = Fd.le k n ++ [n / 256 ^ k % 256] := by simp [Fd.le, List.range_succ]
theorem Fd.le_length (k n : Nat) : (Fd.le k n).length = k := by simp [Fd.le]
theorem Fd.le_byte (k n : Nat) : ∀ x ∈ Fd.le k n, x < 256 := by
  intro x hx
  simp only [Fd.le, List.mem_map] at hx
  obtain ⟨j, _, rfl⟩ := hx
  exact Nat.mod_lt _ (by decide)

/-- append of one byte onto the call's own row, in a region that goes in one order. -/
theorem wpList_append_byte {ops : Array Oper} {rest : List Oper} {o : Oper} {a : Act} {w : World} {Q : Exit → Act → World → Prop} (hgd : o.guard = none) (s x : Operand)
    (ho : o.op = .call { callee := .builtin .append, args := #[s, x], argTypes := #[35, 35] })
    (base : Nat) (v : Value) (n : Nat) (bs : List Nat) (hs : a.eval s = v) (hown : w.ownsRow base 5 1 v n (vb bs))
    (g y : Nat) (hx : a.eval x = .slice (some ⟨g, 0, none⟩) 1 1) (hc : w.cell? ⟨g, 0, none⟩ = some (.int .u8 (y : Int))) (b1 : n + 1 ≤ 140737488355328) (hbase : base ≤ w.heap.size)
    (h : ∀ v' w', Hid (w'.ownsRow base 5 1 v' (n + 1) (vb (bs ++ [y]))) → Hid (w.grownBy w' v.ownBlock) → wpList Try.prog ops Q rest (a.put o.dst v') w') :
    wpList Try.prog ops Q (o :: rest) a w := by
  obtain ⟨i0, hi, hz0, hz1, hz2⟩ := info_parts Try.infoU8
  refine wpList_append_own w hgd s x 35 ho base 5 i0 (.int .u8 0) 1 1 Try.underlying35 hi hz0 hz1 hz2 rfl (by decide) v n (vb bs) hs hown ⟨g, 0, none⟩ 1 1 [.int .u8 (y : Int)] hx rfl ?_ ?_ (by unfold maxLen; omega) (by omega) hbase ?_
  · intro j u hj
    match j, hj with
    | 0, hj =>
      simp at hj
      subst hj
      simpa [Addr.add] using hc
  · intro u hu
    simp at hu
    subst hu
    rfl
  · intro v' w' h2 h3 _
    refine h v' w' ?_ h3
    show World.ownsRow _ _ _ _ _ _ _
    rw [vb_append]
    exact h2

theorem own_shape {w : World} {base : Nat} {e : TypeId} {size : Nat} {v : Value} {n : Nat} {xs : List Value} (h : w.ownsRow base e size v n xs) : ∃ a cap, v = .slice a n cap := by
  rcases h.2 with ⟨rfl, rfl⟩ | ⟨g, cap, cur, rfl, _⟩
  · exact ⟨_, _, rfl⟩
  · exact ⟨_, _, rfl⟩

set_option maxHeartbeats 2000000 in
theorem bytes_walk (n k : Nat) (hn : n < 9223372036854775808) (hk : k ≤ 8) (w : World) :
    Calls Try.prog 49 #[.int .i64 (n : Int), .int .i64 (k : Int)] w fun e w' => ∃ a' cap', e = .returned (.slice a' k cap') ∧ Mine w' w.heap.size a' k cap' (Fd.le k n) ∧ Below w.heap.size w w' := by
  go_enter Try.func49, Try.ntmps49
  go_wp2_with fail
  go_loopw [0, 5, 6] (fun s0 s5 s6 wr => ∃ j m : Nat, s6 = .int .i64 (j : Int) ∧ j ≤ k ∧ s0 = .int .i64 (m : Int) ∧ m < 9223372036854775808 ∧ Hid (m = n / 256 ^ j) ∧ Hid (wr.ownsRow w.heap.size 5 1 s5 j (vb (Fd.le j n))) ∧ Hid (Below w.heap.size w wr)) (fun _ _ s _ => k - (intOf s).toNat)
  case atStart => exact ⟨0, n, rfl, Nat.zero_le _, rfl, hn, by show _ = _; simp, ⟨rfl, Or.inl ⟨rfl, rfl⟩⟩, Below.refl _ _⟩
  case round =>
    obtain ⟨j, m, rfl, hj, rfl, hm, KM, KO, KB⟩ := hrel
    by_cases hlt : j < k
    · obtain ⟨y, hy⟩ : ∃ y, y = m % 256 := ⟨_, rfl⟩
      have hye : ((m : Int) % 256) = (y : Int) := by omega
      have A1 : Hid _ := KO.out.alloc (.cells #[.int .u8 (y : Int)] 5)
      have A2 : Hid ((wr.alloc (.cells #[.int .u8 (y : Int)] 5)).cell? ⟨wr.heap.size, 0, none⟩ = some (.int .u8 (y : Int))) := (Has.new wr (.cells #[.int .u8 (y : Int)] 5)).one.1
      have A4 : Hid (Below w.heap.size w (wr.alloc (.cells #[.int .u8 (y : Int)] 5))) := KB.out.alloc KB.out.size _
      have HE : Hid (Fd.le (j + 1) n = Fd.le j n ++ [y]) := by show _ = _; rw [Fd.le_succ, hy, KM.out]
      have HM : Hid (m / 256 = n / 256 ^ (j + 1)) := by show _ = _; rw [KM.out, Nat.pow_succ, Nat.div_div_eq_div_mul]
      have hq : ((m : Int) / 256) = ((m / 256 : Nat) : Int) := by omega
      have hm2 : m / 256 < 9223372036854775808 := by omega
      generalize m / 256 = m2 at *
      clear KM KO KB hy
      go_wp2_with (at_builtin; (refine wpList_append_byte rfl (.tmp 12) (.tmp 16) rfl w.heap.size _ j (Fd.le j n) rfl A1.out wr.heap.size y rfl A2.out (by omega) A4.out.size ?_; intro v' w' ho hg; have hb := Lib.hid (A4.out.grown hg.out A4.out.size (fun q hq => (World.ownsRow.lt A1.out q hq).1)); have hO : Hid (w'.ownsRow w.heap.size 5 1 v' (j + 1) (vb (Fd.le (j + 1) n))) := (by show World.ownsRow _ _ _ _ _ _ _; rw [HE.out]; exact ho.out); clear ho hg))
      go_roundw
      case rel => exact ⟨j + 1, m2, by go_num, by omega, rfl, hm2, HM, hO, hb⟩
      case measure => simp [intOf]; omega
    · obtain rfl : j = k := by omega
      obtain ⟨a', cap', rfl⟩ := own_shape KO.out
      go_wp2_with fail
      go_ret
      exact ⟨_, _, rfl, ⟨KO.out, (Fd.le_length _ _).symm, Fd.le_byte _ _⟩, KB.out⟩
end Go.Proofs.Ythbiibinmofmfaa

/- Contracts of the small functions of package crc and of the document's step. -/
namespace Go.Proofs.Ythbiibinmofmfaa
set_option maxRecDepth 100000
open Go.RowKit

theorem u32_xor (a b : Nat) (ha : a < 4294967296) (hb : b < 4294967296) : bits BinOp.xor IntKind.u32 (a : Int) (b : Int) = ((a ^^^ b : Nat) : Int) := by
  show IntKind.u32.wrap (((BitVec.ofInt 32 a ^^^ BitVec.ofInt 32 b).toNat : Nat) : Int) = _
  have h : a ^^^ b < 2 ^ 32 := Nat.xor_lt_two_pow (by omega) (by omega)
  rw [BitVec.toNat_xor, BitVec.toNat_ofInt, BitVec.toNat_ofInt]
  have e1 : ((a : Int) % ((2 ^ 32 : Nat) : Int)).toNat = a := by omega
  have e2 : ((b : Int) % ((2 ^ 32 : Nat) : Int)).toNat = b := by omega
  rw [e1, e2, IntKind.wrap_u32]
  omega

theorem u32_and1 (n : Nat) : bits BinOp.and IntKind.u32 (n : Int) 1 = ((n % 2 : Nat) : Int) := by
  have h1 : (BitVec.ofInt 32 1).toNat = 2 ^ 1 - 1 := by decide
  show IntKind.u32.wrap (((BitVec.ofInt 32 n &&& BitVec.ofInt 32 1).toNat : Nat) : Int) = _
  rw [BitVec.toNat_and, BitVec.toNat_ofInt, h1, Nat.and_two_pow_sub_one_eq_mod, IntKind.wrap_u32]
  omega

theorem st_even (c : Nat) (h : ¬ c % 2 = 1) : ((c : Int) / 2) = ((Cr.st c : Nat) : Int) := by
  unfold Cr.st
  rw [if_neg h, Nat.xor_zero]
  omega
theorem st_odd (c : Nat) (h : c % 2 = 1) (hc : c < 4294967296) : bits BinOp.xor IntKind.u32 ((c : Int) / 2) 3988292384 = ((Cr.st c : Nat) : Int) := by
  unfold Cr.st
  have e : ((c : Int) / 2) = ((c / 2 : Nat) : Int) := by omega
  rw [if_pos h, e]
  exact u32_xor (c / 2) Cr.poly (by omega) (by decide)
theorem odd_bit (c : Nat) : (bits BinOp.and IntKind.u32 (c : Int) 1 == 1) = decide (c % 2 = 1) := by
  rw [u32_and1, Bool.eq_iff_iff, beq_iff_eq, decide_eq_true_iff]
  omega

set_option maxHeartbeats 400000 in
theorem step_any (c : Nat) (h : c < 4294967296) (w : World) :
    Calls Try.prog 76 #[.int .u32 (c : Int)] w fun e w' => e = .returned (.int .u32 ((Cr.st c : Nat) : Int)) ∧ w = w' := by
  have ho := odd_bit c
  by_cases h1 : c % 2 = 1
  · have e := st_odd c h1 h
    have hd : (bits BinOp.and IntKind.u32 (c : Int) 1 == 1) = true := by rw [ho]; simpa using h1
    clear ho
    go_enter Try.func76, Try.ntmps76
    go_wp2
    go_ret
    exact ⟨rfl, rfl⟩
  · have e := st_even c h1
    have hd : (bits BinOp.and IntKind.u32 (c : Int) 1 == 1) = false := by rw [ho]; simpa using h1
    clear ho
    go_enter Try.func76, Try.ntmps76
    go_wp2
    go_ret
    exact ⟨rfl, rfl⟩

theorem step_is (c d : Nat) (h : c < 4294967296) (hd : Hid (d = Cr.st c)) (w : World) :
    Calls Try.prog 76 #[.int .u32 (c : Int)] w fun e w' => e = .returned (.int .u32 (d : Int)) ∧ w = w' := by
  rw [hd.out]
  exact step_any c h w

set_option maxHeartbeats 400000 in
theorem eight_any (c : Nat) (h : c < 4294967296) (w : World) :
    Calls Try.prog 67 #[.int .u32 (c : Int)] w fun e w' => e = .returned (.int .u32 ((Cr.stn 8 c : Nat) : Int)) ∧ w = w' := by
  go_enter Try.func67, Try.ntmps67
  go_wp2
  go_loop [0, 3] (fun t i => ∃ k T : Nat, k ≤ 8 ∧ i = .int .i64 k ∧ t = .int .u32 (T : Int) ∧ Hid (T = Cr.stn k c)) (fun _ i => 8 - (intOf i).toNat)
  case atStart => exact ⟨0, c, Nat.zero_le _, rfl, rfl, rfl⟩
  case round =>
    obtain ⟨k, T, hk, rfl, rfl, hT⟩ := hrel
    have hT2 : T < 4294967296 := by rw [hT.out]; exact Cr.stn_lt k c h
    by_cases hlt : k < 8
    · go_wp2_with (go_at_call 76; refine (step_any T hT2 _).mono ?_; rintro e w2 ⟨rfl, rfl⟩)
      refine ⟨⟨k + 1, Cr.st T, by omega, by go_num, rfl, ?_⟩, ?_⟩
      · show _ = _
        rw [hT.out, Cr.stn_succ]
      · simp [intOf]; omega
    · obtain rfl : k = 8 := by omega
      go_wp2
      go_ret
      exact ⟨by rw [hT.out]; rfl, rfl⟩

set_option maxHeartbeats 400000 in
theorem rstep_any (c : Nat) (h : c < 4294967296) (w : World) :
    Calls Try.prog 73 #[.int .u32 (c : Int)] w fun e w' => e = .returned (.int .u32 ((Cr.stn 8 c : Nat) : Int)) ∧ w = w' := by
  go_enter Try.func73, Try.ntmps73
  go_wp2
  go_loop [0, 3] (fun t i => ∃ k T : Nat, k ≤ 8 ∧ i = .int .i64 k ∧ t = .int .u32 (T : Int) ∧ Hid (T = Cr.stn k c)) (fun _ i => 8 - (intOf i).toNat)
  case atStart => exact ⟨0, c, Nat.zero_le _, rfl, rfl, rfl⟩
  case round =>
    obtain ⟨k, T, hk, rfl, rfl, hT⟩ := hrel
    have hT2 : T < 4294967296 := by rw [hT.out]; exact Cr.stn_lt k c h
    have ho := odd_bit T
    by_cases hlt : k < 8
    · by_cases h1 : T % 2 = 1
      · have e := st_odd T h1 hT2
        have hd : (bits BinOp.and IntKind.u32 (T : Int) 1 == 1) = true := by rw [ho]; simpa using h1
        clear ho
        go_wp2
        refine ⟨⟨k + 1, Cr.st T, by omega, by go_num, rfl, ?_⟩, ?_⟩
        · show _ = _
          rw [hT.out, Cr.stn_succ]
        · simp [intOf]; omega
      · have e := st_even T h1
        have hd : (bits BinOp.and IntKind.u32 (T : Int) 1 == 1) = false := by rw [ho]; simpa using h1
        clear ho
        go_wp2
        refine ⟨⟨k + 1, Cr.st T, by omega, by go_num, rfl, ?_⟩, ?_⟩
        · show _ = _
          rw [hT.out, Cr.stn_succ]
        · simp [intOf]; omega
    · obtain rfl : k = 8 := by omega
      go_wp2
      go_ret
      exact ⟨by rw [hT.out]; rfl, rfl⟩

end Go.Proofs.Ythbiibinmofmfaa

/- Contracts of More and Sum, the program's and the document's. -/
namespace Go.Proofs.Ythbiibinmofmfaa
set_option maxRecDepth 100000
open Go.RowKit

theorem u32_not (a : Nat) (ha : a < 4294967296) : bits BinOp.xor IntKind.u32 IntKind.u32.max (a : Int) = ((Cr.ones ^^^ a : Nat) : Int) := by
  have e : IntKind.u32.max = ((Cr.ones : Nat) : Int) := by decide
  rw [e]
  exact u32_xor _ _ (by decide) ha

theorem take_snoc (bs : List Nat) (k : Nat) (h : k < bs.length) : bs.take (k + 1) = bs.take k ++ [bs[k]?.getD 0] := by
  rw [List.take_add_one, List.getElem?_eq_getElem h]
  rfl

theorem xor_lt32 {a b : Nat} (ha : a < 4294967296) (hb : b < 4294967296) : a ^^^ b < 4294967296 := Nat.xor_lt_two_pow (n := 32) ha hb

set_option maxHeartbeats 400000 in
theorem more_any (sm : Nat) (s : Value) (bs : List Nat) (h : sm < 4294967296) (w : World) (hs : Sl w s bs) :
    Calls Try.prog 53 #[.int .u32 (sm : Int), s] w fun e w' => e = .returned (.int .u32 ((Cr.sum sm bs : Nat) : Int)) ∧ w = w' := by
  obtain ⟨a, len, cap, rfl, rfl, hl, hnil, h8, hc⟩ := hs
  have hn := u32_not sm h
  have h0 : Cr.ones ^^^ sm < 4294967296 := xor_lt32 (by decide) h
  go_enter Try.func53, Try.ntmps53
  go_wp2
  go_loop [5, 12] (fun t i => ∃ k T : Nat, k ≤ bs.length ∧ i = .int .i64 k ∧ t = .int .u32 (T : Int) ∧ Hid (T = Cr.run (Cr.ones ^^^ sm) (bs.take k))) (fun _ i => bs.length - (intOf i).toNat)
  case atStart => exact ⟨0, _, Nat.zero_le _, rfl, rfl, rfl⟩
  case round =>
    obtain ⟨k, T, hk, rfl, rfl, hT⟩ := hrel
    have hT2 : T < 4294967296 := by rw [hT.out]; exact Cr.run_lt _ _ h0 (fun x hx => h8 x (List.mem_of_mem_take hx))
    by_cases hlt : k < bs.length
    · obtain ⟨b, off, rfl, hb, hcell⟩ := hc (by omega)
      have hck := hcell k hlt
      have hx8 : bs[k]?.getD 0 < 256 := by rw [List.getElem?_eq_getElem hlt]; exact h8 _ (List.getElem_mem hlt)
      have hsn := Lib.hid (take_snoc bs k hlt)
      clear hcell hc h8
      generalize bs[k]?.getD 0 = x at *
      have hx := u32_xor T x hT2 (by omega)
      have hTx : T ^^^ x < 4294967296 := xor_lt32 hT2 (by omega)
      go_wp2_with (go_at_call 67; refine (eight_any _ hTx _).mono ?_; rintro e w2 ⟨rfl, rfl⟩)
      refine ⟨⟨k + 1, Cr.stn 8 (T ^^^ x), by omega, by go_num, rfl, ?_⟩, ?_⟩
      · show _ = _
        rw [hsn.out, Cr.run_snoc, hT.out]
      · simp [intOf]; omega
    · obtain rfl : k = bs.length := by omega
      have hn2 := u32_not T hT2
      have hS : Cr.ones ^^^ T = Cr.sum sm bs := by rw [hT.out, List.take_length]; rfl
      clear hT
      go_wp2
      go_ret
      exact ⟨by rw [← hS]; rfl, rfl⟩

set_option maxHeartbeats 400000 in
theorem rmore_any (sm : Nat) (s : Value) (bs : List Nat) (h : sm < 4294967296) (w : World) (hs : Sl w s bs) :
    Calls Try.prog 65 #[.int .u32 (sm : Int), s] w fun e w' => e = .returned (.int .u32 ((Cr.sum sm bs : Nat) : Int)) ∧ w = w' := by
  obtain ⟨a, len, cap, rfl, rfl, hl, hnil, h8, hc⟩ := hs
  have hn := u32_not sm h
  have h0 : Cr.ones ^^^ sm < 4294967296 := xor_lt32 (by decide) h
  go_enter Try.func65, Try.ntmps65
  go_wp2
  go_loop [5, 6] (fun t i => ∃ k T : Nat, k ≤ bs.length ∧ i = .int .i64 k ∧ t = .int .u32 (T : Int) ∧ Hid (T = Cr.run (Cr.ones ^^^ sm) (bs.take k))) (fun _ i => bs.length - (intOf i).toNat)
  case atStart => exact ⟨0, _, Nat.zero_le _, rfl, rfl, rfl⟩
  case round =>
    obtain ⟨k, T, hk, rfl, rfl, hT⟩ := hrel
    have hT2 : T < 4294967296 := by rw [hT.out]; exact Cr.run_lt _ _ h0 (fun x hx => h8 x (List.mem_of_mem_take hx))
    by_cases hlt : k < bs.length
    · obtain ⟨b, off, rfl, hb, hcell⟩ := hc (by omega)
      have hck := hcell k hlt
      have hx8 : bs[k]?.getD 0 < 256 := by rw [List.getElem?_eq_getElem hlt]; exact h8 _ (List.getElem_mem hlt)
      have hsn := Lib.hid (take_snoc bs k hlt)
      clear hcell hc h8
      generalize bs[k]?.getD 0 = x at *
      have hx := u32_xor T x hT2 (by omega)
      have hTx : T ^^^ x < 4294967296 := xor_lt32 hT2 (by omega)
      go_wp2_with (go_at_call 73; refine (rstep_any _ hTx _).mono ?_; rintro e w2 ⟨rfl, rfl⟩)
      refine ⟨⟨k + 1, Cr.stn 8 (T ^^^ x), by omega, by go_num, rfl, ?_⟩, ?_⟩
      · show _ = _
        rw [hsn.out, Cr.run_snoc, hT.out]
      · simp [intOf]; omega
    · obtain rfl : k = bs.length := by omega
      have hn2 := u32_not T hT2
      have hS : Cr.ones ^^^ T = Cr.sum sm bs := by rw [hT.out, List.take_length]; rfl
      clear hT
      go_wp2
      go_ret
      exact ⟨by rw [← hS]; rfl, rfl⟩

/-- What is told by the number n, in the world as it was. -/
def Tells (n : Nat) (w : World) (e : Ending) (w' : World) : Prop := e = .returned (.int .u32 (n : Int)) ∧ w = w'

theorem more_zero (s : Value) (bs : List Nat) (w : World) (hs : Sl w s bs) : Calls Try.prog 53 #[.int .u32 0, s] w (Tells (Cr.sum 0 bs) w) :=
  (show ((0 : Nat) : Int) = 0 from rfl) ▸ more_any 0 s bs (by decide) w hs
theorem rmore_zero (s : Value) (bs : List Nat) (w : World) (hs : Sl w s bs) : Calls Try.prog 65 #[.int .u32 0, s] w (Tells (Cr.sum 0 bs) w) :=
  (show ((0 : Nat) : Int) = 0 from rfl) ▸ rmore_any 0 s bs (by decide) w hs

set_option maxHeartbeats 400000 in
theorem sum_any (s : Value) (bs : List Nat) (w : World) (hs : Sl w s bs) :
    Calls Try.prog 29 #[s] w (Tells (Cr.sum 0 bs) w) := by
  have HS := Lib.hid hs
  clear hs
  obtain ⟨a, len, cap, rfl, hl⟩ := HS.out.shape
  clear hl
  go_enter Try.func29, Try.ntmps29
  go_wp2_with (go_at_call 53; refine (more_zero _ bs _ HS.out).mono ?_; rintro e w2 ⟨rfl, rfl⟩)
  go_ret
  exact ⟨rfl, rfl⟩

set_option maxHeartbeats 400000 in
theorem rsum_any (s : Value) (bs : List Nat) (w : World) (hs : Sl w s bs) :
    Calls Try.prog 50 #[s] w (Tells (Cr.sum 0 bs) w) := by
  have HS := Lib.hid hs
  clear hs
  obtain ⟨a, len, cap, rfl, hl⟩ := HS.out.shape
  clear hl
  go_enter Try.func50, Try.ntmps50
  go_wp2_with (go_at_call 65; refine (rmore_zero _ bs _ HS.out).mono ?_; rintro e w2 ⟨rfl, rfl⟩)
  go_ret
  exact ⟨rfl, rfl⟩

end Go.Proofs.Ythbiibinmofmfaa
