/- The document's example of slots. -/
import Derived.Test.YtillckjohlbaiaaZlv
import Derived.Test.YtillckjohlbaiaaYds
import Derived.Test.YtillckjohlbaiaaEdone
import Derived.Lib.SlBytesConst

namespace Go.Proofs.Ytillckjohlbaiaa
set_option maxRecDepth 100000
open Go.RowKit

namespace Sk
theorem fresh_cln (n : Nat) : Cln (Ek.fresh n) := ⟨rfl, rfl, rfl⟩
def abc : List Nat := [97, 98, 99]
theorem abc8 : ∀ x ∈ abc, x < 256 := by decide
def v1 : Ek.Dk := format (Ek.fresh 3)
def v2 : Ek.Dk := commit v1 abc
theorem v1_p : formatE (Ek.fresh 3) = 0 ∧ v1.n = 3 ∧ Cln v1 ∧ Loads 3 (Ek.now v1) [] 0 0 ∧ v1.used ≤ 2 := by
  obtain ⟨a, b, c, d, e⟩ := format_free (Ek.fresh_ok 3 (by decide) (by decide)) (fresh_cln 3) (by decide)
  exact ⟨a, b, c, d, e⟩
theorem v1_t : loadE v1 = 0 ∧ loadB v1 = [] ∧ loadG v1 = 0 := by
  obtain ⟨_, b, c, d, _⟩ := v1_p
  rw [← b] at d
  obtain ⟨q0, q1, q2, _⟩ := d.told c.2.1 (by omega)
  exact ⟨q0, q1, q2⟩
theorem v2_p (hok : Ek.Ok v1) : commitE v1 abc = 0 ∧ v2.n = 3 ∧ Cln v2 ∧ loadE v2 = 0 ∧ loadB v2 = abc ∧ loadG v2 = 1 ∧ v2.used ≤ 10 ∧ Ek.now v2 2 = padded abc ∧ Ek.readE v2 2 = 0 := by
  obtain ⟨_, b, c, d, e⟩ := v1_p
  rw [← b] at d
  obtain ⟨p1, p2, p3, p4, p5, p6⟩ := commit_free hok c (by omega) d (by decide) abc abc8 (by rw [b]; decide)
  have hn : v2.n = 3 := p2.trans b
  have p4' : Loads v2.n (Ek.now v2) abc 1 1 := by rw [hn]; rw [b] at p4; exact p4
  obtain ⟨q0, q1, q2, _⟩ := p4'.told p3.2.1 (by omega)
  refine ⟨p1, hn, p3, q0, q1, q2, ?_, ?_, ?_⟩
  · have : pieces abc = 1 := rfl
    show (commit v1 abc).used ≤ 10; omega
  · show Ek.now (commit v1 abc) 2 = _
    rw [Ek.now_clean p3.1]
    rw [p6]
    unfold Ek.lay
    rw [if_neg (by decide)]
    have hf := filled_at hok.sure (1 - 0) abc abc8 0 (by decide)
    rw [show front v1.n (1 - 0) + 0 = 2 by rw [b]; rfl] at hf
    rw [hf]; rfl
  · unfold Ek.readE
    rw [if_neg (by rw [hn]; decide), if_neg (by rw [show v2.dark = false from p3.2.1]; decide)]
theorem v2_r (h1 : v2.n = 3) (h2 : loadE v2 = 0) (h3 : loadG v2 = 1) (bs : List Nat) (hb : bs.length = 600) : commitE v2 bs = 7 := by
  have hg : (says v2).gen = 1 := by
    unfold loadG at h3; rw [if_pos h2] at h3; exact h3
  have e : commitE0 v2 bs = 7 := by
    unfold commitE0
    rw [if_neg (by rw [h2]; simp), if_neg (by rw [hg]; decide), if_pos (by rw [h1, hb]; decide)]
  unfold commitE
  rw [e, if_neg (by decide)]
end Sk
theorem zrow_any (m : Nat) : ∀ x ∈ List.replicate m 0, x < 256 := fun x hx => by rw [List.eq_of_mem_replicate hx]; omega

set_option maxRecDepth 100000 in
set_option maxHeartbeats 4000000 in
theorem zlives_is (w : World) : Calls Try.prog 19 #[] w fun e w' => e = .returned (.bool true) ∧ Below w.heap.size w w' := by
  have kc := fun (w : World) (C : Array Value) (n c : Nat) => Lib.run_convert_bytes_const (P := Try.prog) w 22 5 C n c Try.underlying22 Try.underlying5
  obtain ⟨OBJ, hO⟩ : ∃ O, O = Obj.cells (madeCells #[Value.int .u8 0] 600) 5 := ⟨_, rfl⟩
  have hmk := run_make_row' (P := Try.prog) 22 5 (.int .u8 0) 1 Try.underlying22 Try.infoU8 rfl .i64 .i64 600 (by omega) (by omega)
  rw [show ((600 : Nat) : Int) = 600 from rfl, ← hO] at hmk
  have HZ : Hid (∀ W : World, Has (W.alloc OBJ) W.heap.size (.cells (vb (List.replicate 600 0)).toArray 5 (0, 0))) := fun W => by
    have := Has.new W OBJ
    rw [hO, made_bytes] at this
    rw [hO, made_bytes]; exact this
  clear hO
  go_enter Try.func19, Try.ntmps19
  go_wp2_with fail
  refine (lv_new (Below.refl w.heap.size w) 3 (by omega) (by omega)).mono ?_
  rintro e w1 ⟨b, rfl, H1⟩
  have CC := Lib.hid (lz_format H1 (by decide))
  rw [Sk.v1_p.1] at CC
  clear H1
  go_wp2_with fail
  refine CC.out.mono ?_
  clear CC
  rintro e w2 ⟨rfl, h2⟩
  have H2 : Hid (Lv w w2 b Sk.v1 w2.heap.size) := h2
  clear h2
  have P2 := Lib.hid (Sk.v2_p H2.out.ok)
  have CC := Lib.hid (lz_load H2.out)
  go_wp2_with fail
  refine CC.out.mono ?_
  clear CC
  rintro e w3 ⟨hb3, a3, c3, rfl, hs3, hg3⟩
  rw [Sk.v1_t.1, Sk.v1_t.2.1, Sk.v1_t.2.2]
  have H3 := Lib.hid (H2.out.top.later hb3)
  clear hb3 hs3 hg3 H2
  go_wp2_with fail
  have hca := kc w3 #[.int .u8 97, .int .u8 98, .int .u8 99] 3 3
  have HAB : Hid (Has (w3.alloc (.cells #[.int .u8 97, .int .u8 98, .int .u8 99] 5 (3, 4))) w3.heap.size (.cells #[.int .u8 97, .int .u8 98, .int .u8 99] 5 (3, 4))) := Has.new w3 _
  have HBA : Hid (Below w3.heap.size w3 (w3.alloc (.cells #[.int .u8 97, .int .u8 98, .int .u8 99] 5 (3, 4)))) := below1 w3 _
  rw [show (#[Value.int .u8 97, .int .u8 98, .int .u8 99] : Array Value).size = 3 from rfl, show 3 + 1 = 4 from rfl] at hca
  generalize hW4 : w3.alloc (.cells #[.int .u8 97, .int .u8 98, .int .u8 99] 5 (3, 4)) = w4 at hca HAB HBA
  clear hW4
  have HSA : Hid (Sl w4 (.slice (some ⟨w3.heap.size, 0, none⟩) 3 3) Sk.abc) := by
    refine ⟨_, 3, 3, rfl, rfl, by omega, fun h => (by cases h), Sk.abc8, fun _ => ⟨w3.heap.size, 0, rfl, HAB.out.lt, fun i hi => ?_⟩⟩
    rw [Nat.zero_add, World.cell?, HAB.out]
    rcases i with _ | _ | _ | i
    all_goals first | rfl | omega
  have CC := Lib.hid (lz_commit (H3.out.later HBA.out) (some ⟨w3.heap.size, 0, none⟩) 3 3 Sk.abc HSA.out (Nat.le_refl _) (fun _ g off spot e => by
    injection e with e; injection e with e _ _
    subst e
    exact ⟨Or.inr H3.out.nlt, HAB.out.lt⟩) (by have := Sk.v1_p.2.2.2.2; rw [Sk.v1_p.2.1]; unfold Sk.share; omega))
  rw [P2.out.1] at CC
  clear kc HBA HAB HSA H3
  go_wp2_with fail
  refine CC.out.mono ?_
  clear CC hca
  rintro e w5 ⟨rfl, h5⟩
  have H5 : Hid (Lv w w5 b Sk.v2 w5.heap.size) := h5
  clear h5
  have CC := Lib.hid (lz_load H5.out)
  go_wp2_with fail
  refine CC.out.mono ?_
  clear CC
  rintro e w6 ⟨hb6, a6, c6, rfl, hs6, hg6⟩
  rw [P2.out.2.2.2.2.1] at hs6 ⊢
  rw [P2.out.2.2.2.1, P2.out.2.2.2.2.2.1]
  have H6 := Lib.hid (H5.out.top.later hb6)
  have HS6 : Hid (Sl w6 (.slice a6 3 c6) Sk.abc) := hs6
  clear hb6 hs6 hg6 H5
  have CC := Lib.hid (lv_read H6.out 2)
  have hl3 : Sk.abc.length = 3 := rfl
  rw [hl3]
  clear hl3
  go_wp2_with fail
  refine CC.out.mono ?_
  clear CC
  rintro e w7 ⟨hb7, hr⟩
  rcases hr with ⟨hr, _⟩ | ⟨_, g7, rfl, hg7, hh7⟩
  · exact absurd P2.out.2.2.2.2.2.2.2.2 hr
  rw [show ((2 : Int)).toNat = 2 from rfl, P2.out.2.2.2.2.2.2.2.1] at hh7
  have H7 := Lib.hid (H6.out.top.later hb7)
  have HS7 := Lib.hid (HS6.out.later hb7)
  have hpl : (Sk.padded Sk.abc).length = 512 := by decide
  have hp8 : ∀ x ∈ Sk.padded Sk.abc, x < 256 := fun x hx => by
    rcases List.mem_append.1 hx with q | q
    · exact Sk.abc8 x q
    · rw [List.eq_of_mem_replicate q]; omega
  have HX7 := Lib.hid ((has_sl hh7 hp8 (by rw [hpl]; decide) 512 512 hpl.symm).take 4 (by omega))
  have hc1 := string_of w7 a6 3 c6 Sk.abc ⟨#[97, 98, 99]⟩ HS7.out (by show _ = _; decide)
  have hc2 := string_of w7 (some ⟨g7, 0, none⟩) 4 512 _ ⟨#[97, 98, 99, 0]⟩ HX7.out (by show _ = _; decide)
  clear H6 HS6 HS7 hb7 hg7 hh7 HX7 hpl hp8
  have HZ7 := Lib.hid (HZ.out w7)
  have HB7 : Hid (Below w7.heap.size w7 (w7.alloc OBJ)) := below1 w7 _
  replace hmk := hmk w7
  generalize hW8 : w7.alloc OBJ = w8 at hmk HZ7 HB7
  clear hW8 HZ
  have HS8 := Lib.hid (has_sl HZ7.out (zrow_any 600) (by rw [List.length_replicate]; omega) 600 600 (by rw [List.length_replicate]))
  have CC := Lib.hid (lz_commit (H7.out.later HB7.out) (some ⟨w7.heap.size, 0, none⟩) 600 600 _ HS8.out (Nat.le_refl _) (fun _ g off spot e => by
    injection e with e; injection e with e _ _
    subst e
    exact ⟨Or.inr H7.out.nlt, HZ7.out.lt⟩) (by have := P2.out.2.2.2.2.2.2.1; rw [P2.out.2.1]; unfold Sk.share; omega))
  rw [Sk.v2_r P2.out.2.1 P2.out.2.2.2.1 P2.out.2.2.2.2.2.1 _ (by rw [List.length_replicate])] at CC
  clear HZ7 HB7 HS8 H7
  go_wp2_with fail
  refine CC.out.mono ?_
  clear CC hmk
  rintro e w9 ⟨rfl, h9⟩
  have HB9 : Hid (Below w.heap.size w w9) := h9.below
  clear h9
  have CC := Lib.hid (zroom_any 10 w9)
  rw [show Sk.roomI 10 = 2048 from by decide] at CC
  have CD := Lib.hid (rroom_any 3 w9 (by decide) (by decide))
  rw [show Sk.roomI 3 = 512 from by decide] at CD
  go_wp2_with fail
  refine CC.out.mono ?_
  clear CC
  rintro e w10 ⟨rfl, rfl⟩
  go_wp2_with fail
  refine CD.out.mono ?_
  clear CD
  rintro e w10 ⟨rfl, rfl⟩
  go_wp2_with fail
  go_ret
  exact ⟨rfl, HB9.out⟩
end Go.Proofs.Ytillckjohlbaiaa

/- Crash of the document's own disk. -/
namespace Go.Proofs.Ytillckjohlbaiaa
set_option maxRecDepth 100000
open Go.RowKit

/-- The sectors behind the first k loose writes, of which shares stay. -/
def setK (d : Ek.Dk) (keep : Nat → Int) (k : Nat) : List ByteArray := (List.range d.n).map fun i => strB (Ek.settleTo d.sure d.loose keep k i)
theorem setK_length (d : Ek.Dk) (keep : Nat → Int) (k : Nat) : (setK d keep k).length = d.n := by simp [setK]
theorem setK_get (d : Ek.Dk) (keep : Nat → Int) (k i : Nat) (h : i < d.n) : (setK d keep k)[i]? = some (strB (Ek.settleTo d.sure d.loose keep k i)) := by simp [setK, h]
theorem setK_succ {d : Ek.Dk} {keep : Nat → Int} {k j : Nat} {r : List Nat} (h : d.loose[k]? = some (j, r)) : setK d keep (k + 1) = (setK d keep k).set j (strB (r.take (Ek.share j (keep k)) ++ (Ek.settleTo d.sure d.loose keep k j).drop (Ek.share j (keep k)))) := by
  apply List.ext_getElem?
  intro i
  by_cases hi : i < d.n
  · rw [setK_get _ _ _ _ hi, List.getElem?_set]
    have e : Ek.settleTo d.sure d.loose keep (k + 1) i = if i = j then r.take (Ek.share j (keep k)) ++ (Ek.settleTo d.sure d.loose keep k j).drop (Ek.share j (keep k)) else Ek.settleTo d.sure d.loose keep k i := by
      simp only [Ek.settleTo, h]
      rfl
    rw [e]
    by_cases hij : i = j
    · subst hij
      rw [if_pos rfl, if_pos rfl, if_pos (by rw [setK_length]; exact hi)]
    · rw [if_neg hij, if_neg (fun h => hij h.symm), setK_get _ _ _ _ hi]
  · rw [List.getElem?_eq_none (by rw [setK_length]; omega), List.getElem?_eq_none (by rw [List.length_set, setK_length]; omega)]
theorem yb_data (bs : List Nat) : (strB bs).data.toList = bs.map UInt8.ofNat := by
  unfold strB
  rw [strOfNums_data, List.map_map]
  congr 1
theorem strB_cut (l : List Nat) (a b : Nat) : (strB l).extract a b = strB ((l.drop a).take (b - a)) := by
  apply ByteArray.ext
  apply Array.ext'
  rw [yb_data, ByteArray.data_extract, Array.toList_extract, yb_data, List.extract_eq_take_drop]
  simp [List.map_take, List.map_drop]
end Go.Proofs.Ytillckjohlbaiaa
