/- Contracts of More and Sum, the program's and the document's. -/
import Derived.Test.YtfihljibfnnahaaCleaf

namespace Go.Proofs.Ytfihljibfnnahaa
set_option maxRecDepth 100000
open Go.RowKit

theorem u32_not (a : Nat) (ha : a < 4294967296) : bits BinOp.xor IntKind.u32 IntKind.u32.max (a : Int) = ((Cr.ones ^^^ a : Nat) : Int) := by
  have e : IntKind.u32.max = ((Cr.ones : Nat) : Int) := by decide
  rw [e]
  exact u32_xor _ _ (by decide) ha

theorem take_snoc (bs : List Nat) (k : Nat) (h : k < bs.length) : bs.take (k + 1) = bs.take k ++ [bs[k]?.getD 0] := by
  rw [List.take_add_one, List.getElem?_eq_getElem h]
  rfl

theorem xor_lt32 {a b : Nat} (ha : a < 4294967296) (hb : b < 4294967296) : a ^^^ b < 4294967296 := Nat.xor_lt_two_pow (n := 32) ha hb

set_option maxHeartbeats 400000 in
theorem more_any (sm : Nat) (s : Value) (bs : List Nat) (h : sm < 4294967296) (w : World) (hs : Sl w s bs) :
    Calls Try.prog 73 #[.int .u32 (sm : Int), s] w fun e w' => e = .returned (.int .u32 ((Cr.sum sm bs : Nat) : Int)) ∧ w = w' := by
  obtain ⟨a, len, cap, rfl, rfl, hl, hnil, h8, hc⟩ := hs
  have hn := u32_not sm h
  have h0 : Cr.ones ^^^ sm < 4294967296 := xor_lt32 (by decide) h
  go_enter Try.func73, Try.ntmps73
  go_wp2
  go_loop [5, 12] (fun t i => ∃ k T : Nat, k ≤ bs.length ∧ i = .int .i64 k ∧ t = .int .u32 (T : Int) ∧ Hid (T = Cr.run (Cr.ones ^^^ sm) (bs.take k))) (fun _ i => bs.length - (intOf i).toNat)
  case atStart => exact ⟨0, _, Nat.zero_le _, rfl, rfl, rfl⟩
  case round =>
    obtain ⟨k, T, hk, rfl, rfl, hT⟩ := hrel
    have hT2 : T < 4294967296 := by rw [hT.out]; exact Cr.run_lt _ _ h0 (fun x hx => h8 x (List.mem_of_mem_take hx))
    by_cases hlt : k < bs.length
    · obtain ⟨b, off, rfl, hb, hcell⟩ := hc (by omega)
      have hck := hcell k hlt
      have hx8 : bs[k]?.getD 0 < 256 := by rw [List.getElem?_eq_getElem hlt]; exact h8 _ (List.getElem_mem hlt)
      have hsn := Lib.hid (take_snoc bs k hlt)
      clear hcell hc h8
      generalize bs[k]?.getD 0 = x at *
      have hx := u32_xor T x hT2 (by omega)
      have hTx : T ^^^ x < 4294967296 := xor_lt32 hT2 (by omega)
      go_wp2_with (go_at_call 87; refine (eight_any _ hTx _).mono ?_; rintro e w2 ⟨rfl, rfl⟩)
      refine ⟨⟨k + 1, Cr.stn 8 (T ^^^ x), by omega, by go_num, rfl, ?_⟩, ?_⟩
      · show _ = _
        rw [hsn.out, Cr.run_snoc, hT.out]
      · simp [intOf]; omega
    · obtain rfl : k = bs.length := by omega
      have hn2 := u32_not T hT2
      have hS : Cr.ones ^^^ T = Cr.sum sm bs := by rw [hT.out, List.take_length]; rfl
      clear hT
      go_wp2
      go_ret
      exact ⟨by rw [← hS]; rfl, rfl⟩

set_option maxHeartbeats 400000 in
theorem rmore_any (sm : Nat) (s : Value) (bs : List Nat) (h : sm < 4294967296) (w : World) (hs : Sl w s bs) :
    Calls Try.prog 81 #[.int .u32 (sm : Int), s] w fun e w' => e = .returned (.int .u32 ((Cr.sum sm bs : Nat) : Int)) ∧ w = w' := by
  obtain ⟨a, len, cap, rfl, rfl, hl, hnil, h8, hc⟩ := hs
  have hn := u32_not sm h
  have h0 : Cr.ones ^^^ sm < 4294967296 := xor_lt32 (by decide) h
  go_enter Try.func81, Try.ntmps81
  go_wp2
  go_loop [5, 6] (fun t i => ∃ k T : Nat, k ≤ bs.length ∧ i = .int .i64 k ∧ t = .int .u32 (T : Int) ∧ Hid (T = Cr.run (Cr.ones ^^^ sm) (bs.take k))) (fun _ i => bs.length - (intOf i).toNat)
  case atStart => exact ⟨0, _, Nat.zero_le _, rfl, rfl, rfl⟩
  case round =>
    obtain ⟨k, T, hk, rfl, rfl, hT⟩ := hrel
    have hT2 : T < 4294967296 := by rw [hT.out]; exact Cr.run_lt _ _ h0 (fun x hx => h8 x (List.mem_of_mem_take hx))
    by_cases hlt : k < bs.length
    · obtain ⟨b, off, rfl, hb, hcell⟩ := hc (by omega)
      have hck := hcell k hlt
      have hx8 : bs[k]?.getD 0 < 256 := by rw [List.getElem?_eq_getElem hlt]; exact h8 _ (List.getElem_mem hlt)
      have hsn := Lib.hid (take_snoc bs k hlt)
      clear hcell hc h8
      generalize bs[k]?.getD 0 = x at *
      have hx := u32_xor T x hT2 (by omega)
      have hTx : T ^^^ x < 4294967296 := xor_lt32 hT2 (by omega)
      go_wp2_with (go_at_call 90; refine (rstep_any _ hTx _).mono ?_; rintro e w2 ⟨rfl, rfl⟩)
      refine ⟨⟨k + 1, Cr.stn 8 (T ^^^ x), by omega, by go_num, rfl, ?_⟩, ?_⟩
      · show _ = _
        rw [hsn.out, Cr.run_snoc, hT.out]
      · simp [intOf]; omega
    · obtain rfl : k = bs.length := by omega
      have hn2 := u32_not T hT2
      have hS : Cr.ones ^^^ T = Cr.sum sm bs := by rw [hT.out, List.take_length]; rfl
      clear hT
      go_wp2
      go_ret
      exact ⟨by rw [← hS]; rfl, rfl⟩

/-- What is told by the number n, in the world as it was. -/
def Tells (n : Nat) (w : World) (e : Ending) (w' : World) : Prop := e = .returned (.int .u32 (n : Int)) ∧ w = w'

theorem more_zero (s : Value) (bs : List Nat) (w : World) (hs : Sl w s bs) : Calls Try.prog 73 #[.int .u32 0, s] w (Tells (Cr.sum 0 bs) w) :=
  (show ((0 : Nat) : Int) = 0 from rfl) ▸ more_any 0 s bs (by decide) w hs
theorem rmore_zero (s : Value) (bs : List Nat) (w : World) (hs : Sl w s bs) : Calls Try.prog 81 #[.int .u32 0, s] w (Tells (Cr.sum 0 bs) w) :=
  (show ((0 : Nat) : Int) = 0 from rfl) ▸ rmore_any 0 s bs (by decide) w hs

set_option maxHeartbeats 400000 in
theorem sum_any (s : Value) (bs : List Nat) (w : World) (hs : Sl w s bs) :
    Calls Try.prog 52 #[s] w (Tells (Cr.sum 0 bs) w) := by
  have HS := Lib.hid hs
  clear hs
  obtain ⟨a, len, cap, rfl, hl⟩ := HS.out.shape
  clear hl
  go_enter Try.func52, Try.ntmps52
  go_wp2_with (go_at_call 73; refine (more_zero _ bs _ HS.out).mono ?_; rintro e w2 ⟨rfl, rfl⟩)
  go_ret
  exact ⟨rfl, rfl⟩

set_option maxHeartbeats 400000 in
theorem rsum_any (s : Value) (bs : List Nat) (w : World) (hs : Sl w s bs) :
    Calls Try.prog 62 #[s] w (Tells (Cr.sum 0 bs) w) := by
  have HS := Lib.hid hs
  clear hs
  obtain ⟨a, len, cap, rfl, hl⟩ := HS.out.shape
  clear hl
  go_enter Try.func62, Try.ntmps62
  go_wp2_with (go_at_call 81; refine (rmore_zero _ bs _ HS.out).mono ?_; rintro e w2 ⟨rfl, rfl⟩)
  go_ret
  exact ⟨rfl, rfl⟩

end Go.Proofs.Ytfihljibfnnahaa
