/- What the document's Load tells, plain: the header is that of what it says and of the slot's own sum. -/
import Derived.Test.YtillckjohlbaiaaZpow2
import Derived.Test.YtillckjohlbaiaaCrc

namespace Go.Proofs.Ytillckjohlbaiaa
set_option maxRecDepth 100000

namespace Sk
theorem rload_iff {d : Ek.Dk} (h8 : ∀ x ∈ Ek.now d 0, x < 256) (hc : Cr.sum 0 (content d (says d).slot (says d).size) < 4294967296) :
    Ek.now d 0 = header ⟨(says d).gen, (says d).slot, (says d).size, Cr.sum 0 (content d (says d).slot (says d).size)⟩ ↔ (Right (Ek.now d 0) ∧ Cr.sum 0 (content d (says d).slot (says d).size) = (says d).sum) := by
  have hf := fits_told h8
  constructor
  · intro h
    have ht : told (Ek.now d 0) = ⟨(says d).gen, (says d).slot, (says d).size, Cr.sum 0 (content d (says d).slot (says d).size)⟩ := by
      rw [h]; exact told_header ⟨hf.1, hf.2.1, hf.2.2.1, hc⟩
    refine ⟨?_, ?_⟩
    · unfold Right; rw [ht]; exact h
    · have : (says d).sum = (⟨(says d).gen, (says d).slot, (says d).size, Cr.sum 0 (content d (says d).slot (says d).size)⟩ : St).sum := congrArg St.sum ht
      exact this.symm
  · rintro ⟨h1, h2⟩
    rw [h2]
    exact h1
/-- The slot that the document's Load tells. -/
def loadS (d : Ek.Dk) : Nat := if loadE d = 0 then (says d).slot else 0
theorem rload_few {d : Ek.Dk} (h : d.n < 3) : loadE d = 7 ∧ loadB d = [] ∧ loadG d = 0 ∧ loadS d = 0 := by
  have e : loadE d = 7 := by unfold loadE; rw [if_pos h]
  refine ⟨e, ?_, ?_, ?_⟩
  · unfold loadB; rw [e]; rfl
  · unfold loadG; rw [e]; rfl
  · unfold loadS; rw [e]; rfl
theorem rload_dark {d : Ek.Dk} (h : ¬ d.n < 3) (hd : d.dark = true) : loadE d = 6 ∧ loadB d = [] ∧ loadG d = 0 ∧ loadS d = 0 := by
  have e : loadE d = 6 := by unfold loadE; rw [if_neg h, if_pos hd]
  refine ⟨e, ?_, ?_, ?_⟩
  · unfold loadB; rw [e]; rfl
  · unfold loadG; rw [e]; rfl
  · unfold loadS; rw [e]; rfl
theorem rload_bad {d : Ek.Dk} (h : ¬ d.n < 3) (hd : d.dark = false) (hx : 1 < (says d).slot ∨ room d.n < (says d).size) : loadE d = 15 ∧ loadB d = [] ∧ loadG d = 0 ∧ loadS d = 0 := by
  have e : loadE d = 15 := by unfold loadE; rw [if_neg h, if_neg (by simp [hd]), if_pos (Or.inr hx)]
  refine ⟨e, ?_, ?_, ?_⟩
  · unfold loadB; rw [e]; rfl
  · unfold loadG; rw [e]; rfl
  · unfold loadS; rw [e]; rfl
theorem rload_else {d : Ek.Dk} (h : ¬ d.n < 3) (hd : d.dark = false) (hx : ¬ (1 < (says d).slot ∨ room d.n < (says d).size)) (h8 : ∀ x ∈ Ek.now d 0, x < 256) (hc : Cr.sum 0 (content d (says d).slot (says d).size) < 4294967296)
    (hn : Ek.now d 0 ≠ header ⟨(says d).gen, (says d).slot, (says d).size, Cr.sum 0 (content d (says d).slot (says d).size)⟩) : loadE d = 15 ∧ loadB d = [] ∧ loadG d = 0 ∧ loadS d = 0 := by
  have e : loadE d = 15 := by
    unfold loadE
    rw [if_neg h, if_neg (by simp [hd])]
    by_cases hr : Right (Ek.now d 0)
    · rw [if_neg (by rintro (h | h); exact h hr; exact hx h), if_pos (fun hs => hn ((rload_iff h8 hc).2 ⟨hr, hs⟩))]
    · rw [if_pos (Or.inl hr)]
  refine ⟨e, ?_, ?_, ?_⟩
  · unfold loadB; rw [e]; rfl
  · unfold loadG; rw [e]; rfl
  · unfold loadS; rw [e]; rfl
theorem rload_good {d : Ek.Dk} (h : ¬ d.n < 3) (hd : d.dark = false) (hx : ¬ (1 < (says d).slot ∨ room d.n < (says d).size)) (h8 : ∀ x ∈ Ek.now d 0, x < 256) (hc : Cr.sum 0 (content d (says d).slot (says d).size) < 4294967296)
    (hn : Ek.now d 0 = header ⟨(says d).gen, (says d).slot, (says d).size, Cr.sum 0 (content d (says d).slot (says d).size)⟩) : loadE d = 0 ∧ loadB d = content d (says d).slot (says d).size ∧ loadG d = (says d).gen ∧ loadS d = (says d).slot := by
  obtain ⟨h1, h2⟩ := (rload_iff h8 hc).1 hn
  have e : loadE d = 0 := by
    unfold loadE
    rw [if_neg h, if_neg (by simp [hd]), if_neg (by rintro (h | h); exact h h1; exact hx h), if_neg (fun q => q h2)]
  refine ⟨e, ?_, ?_, ?_⟩
  · unfold loadB; rw [if_pos e]
  · unfold loadG; rw [if_pos e]
  · unfold loadS; rw [if_pos e]
end Sk
end Go.Proofs.Ytillckjohlbaiaa

/- The document's slot: so many bytes of a slot. -/
namespace Go.Proofs.Ytillckjohlbaiaa
set_option maxRecDepth 100000
open Go.RowKit

theorem strB_cut' (l : List Nat) (b : Nat) : (strB l).extract 0 b = strB (l.take b) := by
  have e : ∀ m : List Nat, (strB m).data.toList = m.map UInt8.ofNat := fun m => by
    unfold strB
    rw [strOfNums_data, List.map_map]
    congr 1
  apply ByteArray.ext
  apply Array.ext'
  rw [e, ByteArray.data_extract, Array.toList_extract, e, List.extract_eq_take_drop]
  simp [List.map_take]

set_option maxRecDepth 100000 in
set_option maxHeartbeats 4000000 in
theorem rslot_any (w : World) (G : Nat → Prop) (v : Value) (d : Ek.Dk) (h : DDk w G v d) (hd : d.dark = false) (which n : Nat) (hw1 : which ≤ 1) (hn : n ≤ Sk.room d.n) :
    Calls Try.prog 65 #[v, .int .i64 (which : Int), .int .i64 (n : Int)] w fun e w' => e = .returned (.tuple #[.string (strB (Sk.content d which n)), .bool true]) ∧ Below w.heap.size w w' := by
  have HR : Hid (∀ W, Below w.heap.size w W → ∀ i : Nat, i < d.n → Calls Try.prog 55 #[v, .int .i64 (i : Int)] W fun e w' => e = .returned (.tuple #[.string (strB (Ek.now d i)), .int .i64 0]) ∧ Below W.heap.size W w') := fun W hb i hi => rdisk_read W G v d (h.later hb) i hi hd
  have hok : Ek.Ok d := by obtain ⟨_, _, _, _, _, _, _, ho⟩ := h; exact ho
  obtain ⟨a, la, c, lc, rfl, _, _, _⟩ := h
  unfold dv at HR ⊢
  have hn8 := hok.hi
  have hn1 := hok.lo
  have hsh := Sk.room_share d.n n hn
  have hshn : Sk.share d.n ≤ 4096 := by unfold Sk.share; omega
  have hn20 : n ≤ 1048576 := by unfold Sk.room at hn; split at hn <;> omega
  obtain ⟨K, hK⟩ : ∃ K, K = (n + 511) / 512 := ⟨_, rfl⟩
  have hrow : ∀ i, (Ek.now d i).length = 512 := fun i => (Ek.now_row hok i).1
  have HLEN : Hid (∀ i, (strB (Sk.secs (Ek.now d) (Sk.front d.n which) i)).size = 512 * i) := fun i => by rw [strB_size, Sk.secs_length _ _ _ hrow]
  have HROW : Hid (∀ i, (strB (Ek.now d i)).size = 512) := fun i => by rw [strB_size]; exact hrow i
  have HFIN : Hid ((strB (Sk.secs (Ek.now d) (Sk.front d.n which) K)).extract 0 n = strB (Sk.content d which n)) := by
    show _ = _
    rw [strB_cut']
    unfold Sk.content Sk.bytes
    rw [hK]
  have HSTEP : Hid (∀ i, strB (Sk.secs (Ek.now d) (Sk.front d.n which) i) ++ strB (Ek.now d (Sk.front d.n which + i)) = strB (Sk.secs (Ek.now d) (Sk.front d.n which) (i + 1))) := fun i => by rw [← strB_append]; rfl
  have hfr : Sk.front d.n which = 1 + which * Sk.share d.n := rfl
  have HIX : Hid (∀ i, i < K → Sk.front d.n which + i < d.n) := fun i hi => by
    have h2 : 2 * Sk.share d.n ≤ d.n - 1 := by unfold Sk.share; omega
    have : which * Sk.share d.n ≤ Sk.share d.n := by
      rcases Nat.le_one_iff_eq_zero_or_eq_one.1 hw1 with e | e <;> rw [e] <;> omega
    rw [hfr]; omega
  have q1 : Value.int .i64 (((d.n : Int) - 1).tdiv 2) = .int .i64 ((Sk.share d.n : Nat) : Int) := by congr 1; rw [Int.tdiv_eq_ediv_of_nonneg (by omega)]; unfold Sk.share; omega
  have q2 : ((d.n : Int) - 1) / 2 = ((Sk.share d.n : Nat) : Int) := by unfold Sk.share; omega
  have HM0 := Lib.hid (Has.new w (.cells #[.slice a d.n c, .slice la d.loose.length lc, .int .i64 d.left, .bool d.dark] 40))
  have HB0 := Lib.hid (below1 w (.cells #[.slice a d.n c, .slice la d.loose.length lc, .int .i64 d.left, .bool d.dark] 40))
  generalize Sk.content d which n = CT at HFIN ⊢
  generalize d.loose.length = L at *
  generalize d.left = F at *
  generalize d.dark = DD at *
  obtain ⟨SH, hSH⟩ : ∃ S, S = Sk.share d.n := ⟨_, rfl⟩
  rw [← hSH] at hsh hshn hfr q1 q2
  generalize Sk.front d.n which = FR at *
  obtain ⟨N, hN⟩ : ∃ N, N = d.n := ⟨_, rfl⟩
  rw [← hN] at HR hn8 hn1 HIX HM0 HB0 q1 q2 ⊢
  have hK2 : K ≤ 4096 := by omega
  have hKn : ∀ i : Nat, i < K ↔ i * 512 < n := fun i => by omega
  have HKN := Lib.hid hKn
  have hwi : (which : Int) ≤ 1 := by omega
  have hws : which * SH ≤ SH := by rcases Nat.le_one_iff_eq_zero_or_eq_one.1 hw1 with e | e <;> rw [e] <;> omega
  obtain ⟨ws, hwe⟩ : ∃ x, x = which * SH := ⟨_, rfl⟩
  rw [← hwe] at hfr hws
  have hwp : Value.int .i64 ((which : Int) * (SH : Int)) = .int .i64 (ws : Int) := by rw [hwe]; push_cast; rfl
  have hwq : (which : Int) * (SH : Int) = (ws : Int) := by rw [hwe]; push_cast; rfl
  have hw4 : (ws : Int) ≤ 4096 := by omega
  have HFR := Lib.hid hfr
  have hn20' : (n : Int) ≤ 1048576 := by omega
  clear hok hn hrow hfr hSH hN hK hKn hws hd hwe hn20 hshn hsh hw1
  go_enter Try.func65, Try.ntmps65
  go_wp2_with fail
  rw [q2]

  go_loopw [9, 10] (fun s9 s10 wr => ∃ i : Nat, s9 = .string (strB (Sk.secs (Ek.now d) FR i)) ∧ s10 = .int .i64 (i : Int) ∧ i ≤ K ∧ Hid (Below w.heap.size w wr) ∧ Hid (Has wr w.heap.size (.cells #[.slice a N c, .slice la L lc, .int .i64 F, .bool DD] 40))) (fun _ s10 _ => K - (intOf s10).toNat)
  case atStart => exact ⟨0, by first | rfl | go_num, by go_num, Nat.zero_le _, HB0, HM0⟩
  case round =>
    obtain ⟨i, rfl, rfl, hi, KB, KM⟩ := hrel
    have hi4 : (i : Int) ≤ 4096 := by omega
    have i0 : (0 : Int) ≤ (i : Int) := by omega
    by_cases hlt : i < K
    · have hlt2 : (i : Int) * 512 < (n : Int) := by have := (HKN.out i).1 hlt; omega
      have CR := Lib.hid (HR.out wr KB.out (FR + i) (HIX.out i hlt))
      have e1 : ((FR + i : Nat) : Int) = 1 + (ws : Int) + (i : Int) := by have := HFR.out; omega
      rw [e1] at CR
      have hstep := HSTEP.out i
      have hz1 := HLEN.out i
      have hz2 := HROW.out (FR + i)
      generalize strB (Ek.now d (FR + i)) = S3 at hstep hz2 CR
      clear e1
      have n0 := (KM.out.cell 0 : _ = some (Value.slice a N c))
      have n1 := (KM.out.cell 1 : _ = some (Value.slice la L lc))
      have n2 := (KM.out.cell 2 : _ = some (Value.int .i64 F))
      have n3 := (KM.out.cell 3 : _ = some (Value.bool DD))
      go_wp2_with fail
      refine CR.out.mono ?_
      rintro e w2 ⟨rfl, hb2⟩
      have KB2 := Lib.hid (KB.out.trans (hb2.mono KB.out.size))
      have KM2 := Lib.hid (KM.out.later hb2)
      have hi5 : i ≤ 4096 := by omega
      clear hb2 n0 n1 n2 n3 CR
      go_wp2_with fail
      go_round
      case rel => exact ⟨i + 1, by first | rfl | go_num, by go_num, by omega, KB2, KM2⟩
      case measure => simp [intOf]; omega
    · obtain rfl : i = K := by omega
      have hlt2 : ¬ ((i : Int) * 512 < (n : Int)) := fun h => hlt ((HKN.out i).2 (by omega))
      have hz1 := HLEN.out i
      have hfin := HFIN.out
      have hle : n ≤ 512 * i := by omega
      generalize strB (Sk.secs (Ek.now d) FR i) = S1 at hz1 hfin ⊢
      have hle2 : (n : Int) ≤ (S1.size : Int) := by omega
      have hle3 : n ≤ S1.size := by omega
      clear hlt hle hz1
      go_wp2_with fail
      go_ret2
      exact ⟨rfl, KB.out⟩
end Go.Proofs.Ytillckjohlbaiaa
