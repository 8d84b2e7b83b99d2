/- What the document's Load tells, plain: the header is that of what it says and of the slot's own sum. -/
import Derived.Test.YthbiibinmofmfaaZpow2
import Derived.Test.YthbiibinmofmfaaCrc
import Derived.Test.YthbiibinmofmfaaElive
import Derived.ArgAppend
import Derived.Laws.Cover3

namespace Go.Proofs.Ythbiibinmofmfaa
set_option maxRecDepth 100000

namespace Sk
theorem rload_iff {d : Ek.Dk} (h8 : ∀ x ∈ Ek.now d 0, x < 256) (hc : Cr.sum 0 (content d (says d).slot (says d).size) < 4294967296) :
    Ek.now d 0 = header ⟨(says d).gen, (says d).slot, (says d).size, Cr.sum 0 (content d (says d).slot (says d).size)⟩ ↔ (Right (Ek.now d 0) ∧ Cr.sum 0 (content d (says d).slot (says d).size) = (says d).sum) := by
  have hf := fits_told h8
  constructor
  · intro h
    have ht : told (Ek.now d 0) = ⟨(says d).gen, (says d).slot, (says d).size, Cr.sum 0 (content d (says d).slot (says d).size)⟩ := by
      rw [h]; exact told_header ⟨hf.1, hf.2.1, hf.2.2.1, hc⟩
    refine ⟨?_, ?_⟩
    · unfold Right; rw [ht]; exact h
    · have : (says d).sum = (⟨(says d).gen, (says d).slot, (says d).size, Cr.sum 0 (content d (says d).slot (says d).size)⟩ : St).sum := congrArg St.sum ht
      exact this.symm
  · rintro ⟨h1, h2⟩
    rw [h2]
    exact h1
/-- The slot that the document's Load tells. -/
def loadS (d : Ek.Dk) : Nat := if loadE d = 0 then (says d).slot else 0
theorem rload_few {d : Ek.Dk} (h : d.n < 3) : loadE d = 7 ∧ loadB d = [] ∧ loadG d = 0 ∧ loadS d = 0 := by
  have e : loadE d = 7 := by unfold loadE; rw [if_pos h]
  refine ⟨e, ?_, ?_, ?_⟩
  · unfold loadB; rw [e]; rfl
  · unfold loadG; rw [e]; rfl
  · unfold loadS; rw [e]; rfl
theorem rload_dark {d : Ek.Dk} (h : ¬ d.n < 3) (hd : d.dark = true) : loadE d = 6 ∧ loadB d = [] ∧ loadG d = 0 ∧ loadS d = 0 := by
  have e : loadE d = 6 := by unfold loadE; rw [if_neg h, if_pos hd]
  refine ⟨e, ?_, ?_, ?_⟩
  · unfold loadB; rw [e]; rfl
  · unfold loadG; rw [e]; rfl
  · unfold loadS; rw [e]; rfl
theorem rload_bad {d : Ek.Dk} (h : ¬ d.n < 3) (hd : d.dark = false) (hx : 1 < (says d).slot ∨ room d.n < (says d).size) : loadE d = 15 ∧ loadB d = [] ∧ loadG d = 0 ∧ loadS d = 0 := by
  have e : loadE d = 15 := by unfold loadE; rw [if_neg h, if_neg (by simp [hd]), if_pos (Or.inr hx)]
  refine ⟨e, ?_, ?_, ?_⟩
  · unfold loadB; rw [e]; rfl
  · unfold loadG; rw [e]; rfl
  · unfold loadS; rw [e]; rfl
theorem rload_else {d : Ek.Dk} (h : ¬ d.n < 3) (hd : d.dark = false) (hx : ¬ (1 < (says d).slot ∨ room d.n < (says d).size)) (h8 : ∀ x ∈ Ek.now d 0, x < 256) (hc : Cr.sum 0 (content d (says d).slot (says d).size) < 4294967296)
    (hn : Ek.now d 0 ≠ header ⟨(says d).gen, (says d).slot, (says d).size, Cr.sum 0 (content d (says d).slot (says d).size)⟩) : loadE d = 15 ∧ loadB d = [] ∧ loadG d = 0 ∧ loadS d = 0 := by
  have e : loadE d = 15 := by
    unfold loadE
    rw [if_neg h, if_neg (by simp [hd])]
    by_cases hr : Right (Ek.now d 0)
    · rw [if_neg (by rintro (h | h); exact h hr; exact hx h), if_pos (fun hs => hn ((rload_iff h8 hc).2 ⟨hr, hs⟩))]
    · rw [if_pos (Or.inl hr)]
  refine ⟨e, ?_, ?_, ?_⟩
  · unfold loadB; rw [e]; rfl
  · unfold loadG; rw [e]; rfl
  · unfold loadS; rw [e]; rfl
theorem rload_good {d : Ek.Dk} (h : ¬ d.n < 3) (hd : d.dark = false) (hx : ¬ (1 < (says d).slot ∨ room d.n < (says d).size)) (h8 : ∀ x ∈ Ek.now d 0, x < 256) (hc : Cr.sum 0 (content d (says d).slot (says d).size) < 4294967296)
    (hn : Ek.now d 0 = header ⟨(says d).gen, (says d).slot, (says d).size, Cr.sum 0 (content d (says d).slot (says d).size)⟩) : loadE d = 0 ∧ loadB d = content d (says d).slot (says d).size ∧ loadG d = (says d).gen ∧ loadS d = (says d).slot := by
  obtain ⟨h1, h2⟩ := (rload_iff h8 hc).1 hn
  have e : loadE d = 0 := by
    unfold loadE
    rw [if_neg h, if_neg (by simp [hd]), if_neg (by rintro (h | h); exact h h1; exact hx h), if_neg (fun q => q h2)]
  refine ⟨e, ?_, ?_, ?_⟩
  · unfold loadB; rw [if_pos e]
  · unfold loadG; rw [if_pos e]
  · unfold loadS; rw [if_pos e]
end Sk
end Go.Proofs.Ythbiibinmofmfaa

/- The document's slot: so many bytes of a slot. -/
namespace Go.Proofs.Ythbiibinmofmfaa
set_option maxRecDepth 100000
open Go.RowKit

theorem strB_cut' (l : List Nat) (b : Nat) : (strB l).extract 0 b = strB (l.take b) := by
  have e : ∀ m : List Nat, (strB m).data.toList = m.map UInt8.ofNat := fun m => by
    unfold strB
    rw [strOfNums_data, List.map_map]
    congr 1
  apply ByteArray.ext
  apply Array.ext'
  rw [e, ByteArray.data_extract, Array.toList_extract, e, List.extract_eq_take_drop]
  simp [List.map_take]

set_option maxRecDepth 100000 in
set_option maxHeartbeats 4000000 in
theorem rslot_any (w : World) (G : Nat → Prop) (v : Value) (d : Ek.Dk) (h : DDk w G v d) (hd : d.dark = false) (which n : Nat) (hw1 : which ≤ 1) (hn : n ≤ Sk.room d.n) :
    Calls Try.prog 41 #[v, .int .i64 (which : Int), .int .i64 (n : Int)] w fun e w' => e = .returned (.tuple #[.string (strB (Sk.content d which n)), .bool true]) ∧ Below w.heap.size w w' := by
  have HR : Hid (∀ W, Below w.heap.size w W → ∀ i : Nat, i < d.n → Calls Try.prog 38 #[v, .int .i64 (i : Int)] W fun e w' => e = .returned (.tuple #[.string (strB (Ek.now d i)), .int .i64 0]) ∧ Below W.heap.size W w') := fun W hb i hi => rdisk_read W G v d (h.later hb) i hi hd
  have hok : Ek.Ok d := by obtain ⟨_, _, _, _, _, _, _, ho⟩ := h; exact ho
  obtain ⟨a, la, c, lc, rfl, _, _, _⟩ := h
  unfold dv at HR ⊢
  have hn8 := hok.hi
  have hn1 := hok.lo
  have hsh := Sk.room_share d.n n hn
  have hshn : Sk.share d.n ≤ 4096 := by unfold Sk.share; omega
  have hn20 : n ≤ 1048576 := by unfold Sk.room at hn; split at hn <;> omega
  obtain ⟨K, hK⟩ : ∃ K, K = (n + 511) / 512 := ⟨_, rfl⟩
  have hrow : ∀ i, (Ek.now d i).length = 512 := fun i => (Ek.now_row hok i).1
  have HLEN : Hid (∀ i, (strB (Sk.secs (Ek.now d) (Sk.front d.n which) i)).size = 512 * i) := fun i => by rw [strB_size, Sk.secs_length _ _ _ hrow]
  have HROW : Hid (∀ i, (strB (Ek.now d i)).size = 512) := fun i => by rw [strB_size]; exact hrow i
  have HFIN : Hid ((strB (Sk.secs (Ek.now d) (Sk.front d.n which) K)).extract 0 n = strB (Sk.content d which n)) := by
    show _ = _
    rw [strB_cut']
    unfold Sk.content Sk.bytes
    rw [hK]
  have HSTEP : Hid (∀ i, strB (Sk.secs (Ek.now d) (Sk.front d.n which) i) ++ strB (Ek.now d (Sk.front d.n which + i)) = strB (Sk.secs (Ek.now d) (Sk.front d.n which) (i + 1))) := fun i => by rw [← strB_append]; rfl
  have hfr : Sk.front d.n which = 1 + which * Sk.share d.n := rfl
  have HIX : Hid (∀ i, i < K → Sk.front d.n which + i < d.n) := fun i hi => by
    have h2 : 2 * Sk.share d.n ≤ d.n - 1 := by unfold Sk.share; omega
    have : which * Sk.share d.n ≤ Sk.share d.n := by
      rcases Nat.le_one_iff_eq_zero_or_eq_one.1 hw1 with e | e <;> rw [e] <;> omega
    rw [hfr]; omega
  have q1 : Value.int .i64 (((d.n : Int) - 1).tdiv 2) = .int .i64 ((Sk.share d.n : Nat) : Int) := by congr 1; rw [Int.tdiv_eq_ediv_of_nonneg (by omega)]; unfold Sk.share; omega
  have q2 : ((d.n : Int) - 1) / 2 = ((Sk.share d.n : Nat) : Int) := by unfold Sk.share; omega
  have HM0 := Lib.hid (Has.new w (.cells #[.slice a d.n c, .slice la d.loose.length lc, .int .i64 d.left, .bool d.dark] 32))
  have HB0 := Lib.hid (below1 w (.cells #[.slice a d.n c, .slice la d.loose.length lc, .int .i64 d.left, .bool d.dark] 32))
  generalize Sk.content d which n = CT at HFIN ⊢
  generalize d.loose.length = L at *
  generalize d.left = F at *
  generalize d.dark = DD at *
  obtain ⟨SH, hSH⟩ : ∃ S, S = Sk.share d.n := ⟨_, rfl⟩
  rw [← hSH] at hsh hshn hfr q1 q2
  generalize Sk.front d.n which = FR at *
  obtain ⟨N, hN⟩ : ∃ N, N = d.n := ⟨_, rfl⟩
  rw [← hN] at HR hn8 hn1 HIX HM0 HB0 q1 q2 ⊢
  have hK2 : K ≤ 4096 := by omega
  have hKn : ∀ i : Nat, i < K ↔ i * 512 < n := fun i => by omega
  have HKN := Lib.hid hKn
  have hwi : (which : Int) ≤ 1 := by omega
  have hws : which * SH ≤ SH := by rcases Nat.le_one_iff_eq_zero_or_eq_one.1 hw1 with e | e <;> rw [e] <;> omega
  obtain ⟨ws, hwe⟩ : ∃ x, x = which * SH := ⟨_, rfl⟩
  rw [← hwe] at hfr hws
  have hwp : Value.int .i64 ((which : Int) * (SH : Int)) = .int .i64 (ws : Int) := by rw [hwe]; push_cast; rfl
  have hwq : (which : Int) * (SH : Int) = (ws : Int) := by rw [hwe]; push_cast; rfl
  have hw4 : (ws : Int) ≤ 4096 := by omega
  have HFR := Lib.hid hfr
  have hn20' : (n : Int) ≤ 1048576 := by omega
  clear hok hn hrow hfr hSH hN hK hKn hws hd hwe hn20 hshn hsh hw1
  go_enter Try.func41, Try.ntmps41
  go_wp2_with fail
  rw [q2]

  go_loopw [9, 10] (fun s9 s10 wr => ∃ i : Nat, s9 = .string (strB (Sk.secs (Ek.now d) FR i)) ∧ s10 = .int .i64 (i : Int) ∧ i ≤ K ∧ Hid (Below w.heap.size w wr) ∧ Hid (Has wr w.heap.size (.cells #[.slice a N c, .slice la L lc, .int .i64 F, .bool DD] 32))) (fun _ s10 _ => K - (intOf s10).toNat)
  case atStart => exact ⟨0, by first | rfl | go_num, by go_num, Nat.zero_le _, HB0, HM0⟩
  case round =>
    obtain ⟨i, rfl, rfl, hi, KB, KM⟩ := hrel
    have hi4 : (i : Int) ≤ 4096 := by omega
    have i0 : (0 : Int) ≤ (i : Int) := by omega
    by_cases hlt : i < K
    · have hlt2 : (i : Int) * 512 < (n : Int) := by have := (HKN.out i).1 hlt; omega
      have CR := Lib.hid (HR.out wr KB.out (FR + i) (HIX.out i hlt))
      have e1 : ((FR + i : Nat) : Int) = 1 + (ws : Int) + (i : Int) := by have := HFR.out; omega
      rw [e1] at CR
      have hstep := HSTEP.out i
      have hz1 := HLEN.out i
      have hz2 := HROW.out (FR + i)
      generalize strB (Ek.now d (FR + i)) = S3 at hstep hz2 CR
      clear e1
      have n0 := (KM.out.cell 0 : _ = some (Value.slice a N c))
      have n1 := (KM.out.cell 1 : _ = some (Value.slice la L lc))
      have n2 := (KM.out.cell 2 : _ = some (Value.int .i64 F))
      have n3 := (KM.out.cell 3 : _ = some (Value.bool DD))
      go_wp2_with fail
      refine CR.out.mono ?_
      rintro e w2 ⟨rfl, hb2⟩
      have KB2 := Lib.hid (KB.out.trans (hb2.mono KB.out.size))
      have KM2 := Lib.hid (KM.out.later hb2)
      have hi5 : i ≤ 4096 := by omega
      clear hb2 n0 n1 n2 n3 CR
      go_wp2_with fail
      go_round
      case rel => exact ⟨i + 1, by first | rfl | go_num, by go_num, by omega, KB2, KM2⟩
      case measure => simp [intOf]; omega
    · obtain rfl : i = K := by omega
      have hlt2 : ¬ ((i : Int) * 512 < (n : Int)) := fun h => hlt ((HKN.out i).2 (by omega))
      have hz1 := HLEN.out i
      have hfin := HFIN.out
      have hle : n ≤ 512 * i := by omega
      generalize strB (Sk.secs (Ek.now d) FR i) = S1 at hz1 hfin ⊢
      have hle2 : (n : Int) ≤ (S1.size : Int) := by omega
      have hle3 : n ≤ S1.size := by omega
      clear hlt hle hz1
      go_wp2_with fail
      go_ret2
      exact ⟨rfl, KB.out⟩
end Go.Proofs.Ythbiibinmofmfaa

/- Contracts of cut, bytes.Clone and behind. -/
namespace Go.Proofs.Ythbiibinmofmfaa
set_option maxRecDepth 100000
open Go.RowKit

/-- Bytes in memory of the call's own. -/
def Mine (w : World) (B : Nat) (a : Option Addr) (n cap : Nat) (l : List Nat) : Prop := w.ownsRow B 5 1 (.slice a n cap) n (vb l) ∧ n = l.length ∧ ∀ x ∈ l, x < 256

theorem Mine.sl {w : World} {B : Nat} {a : Option Addr} {n cap : Nat} {l : List Nat} (h : Mine w B a n cap l) (hn : n ≤ 281474976710656) : Sl w (.slice a n cap) l := Sl.owned h.1 h.2.2 hn

theorem Sl.bytes {w : World} {s : Value} {bs : List Nat} (h : Sl w s bs) : ∀ x ∈ bs, x < 256 := h.facts.1

set_option maxHeartbeats 1000000 in
theorem cut_bad (a : Option Addr) (len cap : Nat) (i k : Int) (h : i < 0 ∨ (len : Int) < i ∨ k < 0) (w : World) :
    Calls Try.prog 74 #[.slice a len cap, .int .i64 i, .int .i64 k] w fun e w' => e = .returned (.tuple #[.slice none 0 0, .int .i64 2]) ∧ w = w' := by
  have hd : ((decide (i < 0) || decide ((len : Int) < i)) || decide (k < 0)) = true := by simpa [Bool.or_eq_true, or_assoc] using h
  by_cases h0 : i < 0
  · go_enter Try.func74, Try.ntmps74
    go_wp2
    go_ret2
    exact ⟨rfl, rfl⟩
  · by_cases h1 : (len : Int) < i
    · go_enter Try.func74, Try.ntmps74
      go_wp2
      go_ret2
      exact ⟨rfl, rfl⟩
    · have h2 : k < 0 := by omega
      go_enter Try.func74, Try.ntmps74
      go_wp2
      go_ret2
      exact ⟨rfl, rfl⟩

set_option maxHeartbeats 1000000 in
theorem cut_short (a : Option Addr) (len cap : Nat) (i k : Int) (hl : len ≤ 281474976710656) (h0 : 0 ≤ i) (h1 : i ≤ (len : Int)) (h2 : (len : Int) - i < k) (w : World) :
    Calls Try.prog 74 #[.slice a len cap, .int .i64 i, .int .i64 k] w fun e w' => e = .returned (.tuple #[.slice none 0 0, .int .i64 4]) ∧ w = w' := by
  have h3 : IntKind.i64.wrap ((len : Int) - i) = (len : Int) - i := IntWalk.i64_in _ (by omega)
  have h4 : 0 ≤ k := by omega
  go_enter Try.func74, Try.ntmps74
  go_wp2
  go_ret2
  exact ⟨rfl, rfl⟩

theorem Sl.cut {w : World} {a : Option Addr} {len cap : Nat} {bs : List Nat} (h : Sl w (.slice a len cap) bs) (i k : Nat) (hik : i + k ≤ len) (hk : k ≠ 0) (c : Nat) :
    Sl w (.slice (Option.map (fun x => x.add i) a) k c) ((bs.drop i).take k) := by
  obtain ⟨a', len', cap', he, h1, h2, h3, h4, h5⟩ := h
  injection he with e1 e2 e3
  subst e1 e2 e3
  obtain ⟨b, off, rfl, hlt, hc⟩ := h5 (by omega)
  have e : Option.map (fun x : Addr => x.add i) (some ⟨b, off, none⟩) = some ⟨b, off + i, none⟩ := by
    cases i <;> simp [Addr.add]
  rw [e]
  refine ⟨_, k, c, rfl, by simp; omega, by omega, fun h => by simp at h, fun x hx => h4 x (List.mem_of_mem_drop (List.mem_of_mem_take hx)), fun _ => ⟨b, off + i, rfl, hlt, fun j hj => ?_⟩⟩
  have := hc (i + j) (by omega)
  rw [← Nat.add_assoc] at this
  rw [this, List.getElem?_take_of_lt hj, List.getElem?_drop]

/-- A slice that has bytes, or none and no place for any. -/
theorem Sl.empty (w : World) (a : Option Addr) : Sl w (.slice a 0 0) [] := ⟨a, 0, 0, rfl, rfl, by omega, fun _ => ⟨rfl, rfl⟩, fun _ h => (nomatch h), fun h => absurd h (by omega)⟩

set_option maxHeartbeats 1000000 in
theorem cut_ok (a : Option Addr) (len cap : Nat) (bs : List Nat) (i k : Nat) (h : i + k ≤ len) (hc : len ≤ cap) (w : World) (hs : Sl w (.slice a len cap) bs) :
    Calls Try.prog 74 #[.slice a len cap, .int .i64 (i : Int), .int .i64 (k : Int)] w fun e w' => ∃ a', e = .returned (.tuple #[.slice a' k k, .int .i64 0]) ∧ Sl w (.slice a' k k) ((bs.drop i).take k) ∧ w = w' := by
  have hl := hs.len.2.1
  have HS := Lib.hid hs
  clear hs
  have h0 : (0 : Int) ≤ (i : Int) := by omega
  have h1 : (i : Int) ≤ (len : Int) := by omega
  have h2 : (0 : Int) ≤ (k : Int) := by omega
  have h3 : IntKind.i64.wrap ((len : Int) - (i : Int)) = (len : Int) - (i : Int) := IntWalk.i64_in _ (by omega)
  have h4 : (k : Int) ≤ (len : Int) - (i : Int) := by omega
  have h5 : IntKind.i64.wrap ((i : Int) + (k : Int)) = (i : Int) + (k : Int) := IntWalk.i64_in _ (by omega)
  have h6 : (i : Int) ≤ (i : Int) + (k : Int) := by omega
  have h7 : (i : Int) + (k : Int) ≤ (cap : Int) := by omega
  by_cases hk : k = 0
  · subst hk
    go_enter Try.func74, Try.ntmps74
    go_wp2
    go_ret2
    exact ⟨a, rfl, by simpa using Sl.empty w a, rfl⟩
  · have hk2 : ¬ i + k = i := by omega
    have hk3 : i + k - i = k := by omega
    have HK3 := Lib.hid hk3
    have HK := Lib.hid (HS.out.cut i k h hk k)
    go_enter Try.func74, Try.ntmps74
    go_wp2
    go_ret2
    refine ⟨_, ?_, HK.out, rfl⟩
    have e := HK3.out
    simp [e]

/-- A slice of bytes against nil. -/
theorem run_eql_nil (w : World) (a : Option Addr) (l c : Nat) : (binOp .eql 35 (.slice a l c) (.slice none 0 0)).run Try.prog w = .ok (.bool a.isNone) w := by
  simp only [binOp]
  simp [run_equal_slice_nil w 35 5 a l c Try.underlying35]

set_option maxHeartbeats 1000000 in
theorem behind_walk (a : Option Addr) (len cap : Nat) (bs : List Nat) (g m : Nat) (cs : List Nat) (w : World) (hs : Sl w (.slice a len cap) bs) (hc : len ≤ cap) (ht : Sl w (.slice (some ⟨g, 0, none⟩) m m) cs) (hm : 0 < m) (hl : len + m ≤ 140737488355328) :
    Calls Try.prog 81 #[.slice a len cap, .slice (some ⟨g, 0, none⟩) m m] w fun e w' => ∃ a' cap', e = .returned (.slice a' (len + m) cap') ∧ Mine w' w.heap.size a' (len + m) cap' (bs ++ cs) ∧ Below w.heap.size w w' := by
  obtain ⟨i0, hi, hz0, hz1, hz2⟩ := info_parts Try.infoU8
  obtain ⟨h1, _, h3⟩ := hs.len
  have t1 := ht.len.1
  have h8 : ∀ x ∈ bs ++ cs, x < 256 := fun x hx => (List.mem_append.1 hx).elim (hs.bytes x) (ht.bytes x)
  have HS := Lib.hid hs
  have HT := Lib.hid ht
  have H1 := Lib.hid h1
  have H3 := Lib.hid h3
  have T1 := Lib.hid t1
  have H8 := Lib.hid h8
  clear hs ht h1 h3 t1 h8
  have hcc : (len : Int) ≤ (cap : Int) := by omega
  go_enter Try.func81, Try.ntmps81
  go_wp2_with (at_builtin; (refine wpList_append_grows w rfl (.tmp 10) (.tmp 11) 35 rfl 5 i0 (.int .u8 0) 1 1 Try.underlying35 hi hz0 hz1 hz2 rfl (by decide) a len len (vb bs) rfl (fun h => ⟨(H3.out h).1, (H3.out h).1⟩) (by rw [vb_length]; have := H1.out; omega) ?_ ⟨g, 0, none⟩ m m (vb cs) rfl (by rw [vb_length]; have := T1.out; omega) ?_ (oneCell_vb cs) (by omega) (by unfold maxLen; omega) (by omega) ?_; rotate_left; rotate_left; intro v' w' ho hg))
  · have HO := Lib.hid ho
    have HB := Lib.hid ((Below.refl w.heap.size w).grown hg (Nat.le_refl _) (fun k hk => by cases hk))
    clear ho hg
    obtain ⟨a', cap', rfl⟩ : ∃ a' cap', v' = .slice a' (len + m) cap' := by
      rcases HO.out.2 with ⟨h, h'⟩ | ⟨g, cap, _, h, _⟩
      · omega
      · exact ⟨_, _, h⟩
    go_ret
    refine ⟨_, _, rfl, ⟨?_, ?_, H8.out⟩, HB.out⟩
    · rw [vb_append]
      exact HO.out
    · rw [List.length_append, ← H1.out, ← T1.out]
  · rintro b rfl j u hj
    have hlt : j < len := by
      have := (List.getElem?_eq_some_iff.1 hj).1
      rw [vb_length] at this
      have := H1.out
      omega
    obtain ⟨ad, he, h⟩ := HS.out.cells (by omega)
    injection he with he
    subst he
    exact h j u hj
  · intro j u hj
    obtain ⟨ad, he, h⟩ := HT.out.cells hm
    injection he with he
    subst he
    exact h j u hj
end Go.Proofs.Ythbiibinmofmfaa
