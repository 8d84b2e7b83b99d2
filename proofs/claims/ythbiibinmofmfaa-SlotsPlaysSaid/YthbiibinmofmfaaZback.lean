/- The document's example of slots. -/
import Derived.Test.YthbiibinmofmfaaZlv
import Derived.Test.YthbiibinmofmfaaEdone
import Derived.Lib.SlBytesConst
import Derived.ChangeArms
import Derived.DataReads

namespace Go.Proofs.Ythbiibinmofmfaa
set_option maxRecDepth 100000
open Go.RowKit

namespace Sk
theorem fresh_cln (n : Nat) : Cln (Ek.fresh n) := ⟨rfl, rfl, rfl⟩
def abc : List Nat := [97, 98, 99]
theorem abc8 : ∀ x ∈ abc, x < 256 := by decide
def v1 : Ek.Dk := format (Ek.fresh 3)
def v2 : Ek.Dk := commit v1 abc
theorem v1_p : formatE (Ek.fresh 3) = 0 ∧ v1.n = 3 ∧ Cln v1 ∧ Loads 3 (Ek.now v1) [] 0 0 ∧ v1.used ≤ 2 := by
  obtain ⟨a, b, c, d, e⟩ := format_free (Ek.fresh_ok 3 (by decide) (by decide)) (fresh_cln 3) (by decide)
  exact ⟨a, b, c, d, e⟩
theorem v1_t : loadE v1 = 0 ∧ loadB v1 = [] ∧ loadG v1 = 0 := by
  obtain ⟨_, b, c, d, _⟩ := v1_p
  rw [← b] at d
  obtain ⟨q0, q1, q2, _⟩ := d.told c.2.1 (by omega)
  exact ⟨q0, q1, q2⟩
theorem v2_p (hok : Ek.Ok v1) : commitE v1 abc = 0 ∧ v2.n = 3 ∧ Cln v2 ∧ loadE v2 = 0 ∧ loadB v2 = abc ∧ loadG v2 = 1 ∧ v2.used ≤ 10 ∧ Ek.now v2 2 = padded abc ∧ Ek.readE v2 2 = 0 := by
  obtain ⟨_, b, c, d, e⟩ := v1_p
  rw [← b] at d
  obtain ⟨p1, p2, p3, p4, p5, p6⟩ := commit_free hok c (by omega) d (by decide) abc abc8 (by rw [b]; decide)
  have hn : v2.n = 3 := p2.trans b
  have p4' : Loads v2.n (Ek.now v2) abc 1 1 := by rw [hn]; rw [b] at p4; exact p4
  obtain ⟨q0, q1, q2, _⟩ := p4'.told p3.2.1 (by omega)
  refine ⟨p1, hn, p3, q0, q1, q2, ?_, ?_, ?_⟩
  · have : pieces abc = 1 := rfl
    show (commit v1 abc).used ≤ 10; omega
  · show Ek.now (commit v1 abc) 2 = _
    rw [Ek.now_clean p3.1]
    rw [p6]
    unfold Ek.lay
    rw [if_neg (by decide)]
    have hf := filled_at hok.sure (1 - 0) abc abc8 0 (by decide)
    rw [show front v1.n (1 - 0) + 0 = 2 by rw [b]; rfl] at hf
    rw [hf]; rfl
  · unfold Ek.readE
    rw [if_neg (by rw [hn]; decide), if_neg (by rw [show v2.dark = false from p3.2.1]; decide)]
theorem v2_r (h1 : v2.n = 3) (h2 : loadE v2 = 0) (h3 : loadG v2 = 1) (bs : List Nat) (hb : bs.length = 600) : commitE v2 bs = 7 := by
  have hg : (says v2).gen = 1 := by
    unfold loadG at h3; rw [if_pos h2] at h3; exact h3
  have e : commitE0 v2 bs = 7 := by
    unfold commitE0
    rw [if_neg (by rw [h2]; simp), if_neg (by rw [hg]; decide), if_pos (by rw [h1, hb]; decide)]
  unfold commitE
  rw [e, if_neg (by decide)]
end Sk
theorem zrow_any (m : Nat) : ∀ x ∈ List.replicate m 0, x < 256 := fun x hx => by rw [List.eq_of_mem_replicate hx]; omega

set_option maxRecDepth 100000 in
set_option maxHeartbeats 4000000 in
theorem zlives_is (w : World) : Calls Try.prog 5 #[] w fun e w' => e = .returned (.bool true) ∧ Below w.heap.size w w' := by
  have kc := fun (w : World) (C : Array Value) (n c : Nat) => Lib.run_convert_bytes_const (P := Try.prog) w 35 5 C n c Try.underlying35 Try.underlying5
  obtain ⟨OBJ, hO⟩ : ∃ O, O = Obj.cells (madeCells #[Value.int .u8 0] 600) 5 := ⟨_, rfl⟩
  have hmk := run_make_row' (P := Try.prog) 35 5 (.int .u8 0) 1 Try.underlying35 Try.infoU8 rfl .i64 .i64 600 (by omega) (by omega)
  rw [show ((600 : Nat) : Int) = 600 from rfl, ← hO] at hmk
  have HZ : Hid (∀ W : World, Has (W.alloc OBJ) W.heap.size (.cells (vb (List.replicate 600 0)).toArray 5 (0, 0))) := fun W => by
    have := Has.new W OBJ
    rw [hO, made_bytes] at this
    rw [hO, made_bytes]; exact this
  clear hO
  go_enter Try.func5, Try.ntmps5
  go_wp2_with fail
  refine (lv_new (Below.refl w.heap.size w) 3 (by omega) (by omega)).mono ?_
  rintro e w1 ⟨b, rfl, H1⟩
  have CC := Lib.hid (lz_format H1 (by decide))
  rw [Sk.v1_p.1] at CC
  clear H1
  go_wp2_with fail
  refine CC.out.mono ?_
  clear CC
  rintro e w2 ⟨rfl, h2⟩
  have H2 : Hid (Lv w w2 b Sk.v1 w2.heap.size) := h2
  clear h2
  have P2 := Lib.hid (Sk.v2_p H2.out.ok)
  have CC := Lib.hid (lz_load H2.out)
  go_wp2_with fail
  refine CC.out.mono ?_
  clear CC
  rintro e w3 ⟨hb3, a3, c3, rfl, hs3, hg3⟩
  rw [Sk.v1_t.1, Sk.v1_t.2.1, Sk.v1_t.2.2]
  have H3 := Lib.hid (H2.out.top.later hb3)
  clear hb3 hs3 hg3 H2
  go_wp2_with fail
  have hca := kc w3 #[.int .u8 97, .int .u8 98, .int .u8 99] 3 3
  have HAB : Hid (Has (w3.alloc (.cells #[.int .u8 97, .int .u8 98, .int .u8 99] 5 (3, 4))) w3.heap.size (.cells #[.int .u8 97, .int .u8 98, .int .u8 99] 5 (3, 4))) := Has.new w3 _
  have HBA : Hid (Below w3.heap.size w3 (w3.alloc (.cells #[.int .u8 97, .int .u8 98, .int .u8 99] 5 (3, 4)))) := below1 w3 _
  rw [show (#[Value.int .u8 97, .int .u8 98, .int .u8 99] : Array Value).size = 3 from rfl, show 3 + 1 = 4 from rfl] at hca
  generalize hW4 : w3.alloc (.cells #[.int .u8 97, .int .u8 98, .int .u8 99] 5 (3, 4)) = w4 at hca HAB HBA
  clear hW4
  have HSA : Hid (Sl w4 (.slice (some ⟨w3.heap.size, 0, none⟩) 3 3) Sk.abc) := by
    refine ⟨_, 3, 3, rfl, rfl, by omega, fun h => (by cases h), Sk.abc8, fun _ => ⟨w3.heap.size, 0, rfl, HAB.out.lt, fun i hi => ?_⟩⟩
    rw [Nat.zero_add, World.cell?, HAB.out]
    rcases i with _ | _ | _ | i
    all_goals first | rfl | omega
  have CC := Lib.hid (lz_commit (H3.out.later HBA.out) (some ⟨w3.heap.size, 0, none⟩) 3 3 Sk.abc HSA.out (Nat.le_refl _) (fun _ g off spot e => by
    injection e with e; injection e with e _ _
    subst e
    exact ⟨Or.inr H3.out.nlt, HAB.out.lt⟩) (by have := Sk.v1_p.2.2.2.2; rw [Sk.v1_p.2.1]; unfold Sk.share; omega))
  rw [P2.out.1] at CC
  clear kc HBA HAB HSA H3
  go_wp2_with fail
  refine CC.out.mono ?_
  clear CC hca
  rintro e w5 ⟨rfl, h5⟩
  have H5 : Hid (Lv w w5 b Sk.v2 w5.heap.size) := h5
  clear h5
  have CC := Lib.hid (lz_load H5.out)
  go_wp2_with fail
  refine CC.out.mono ?_
  clear CC
  rintro e w6 ⟨hb6, a6, c6, rfl, hs6, hg6⟩
  rw [P2.out.2.2.2.2.1] at hs6 ⊢
  rw [P2.out.2.2.2.1, P2.out.2.2.2.2.2.1]
  have H6 := Lib.hid (H5.out.top.later hb6)
  have HS6 : Hid (Sl w6 (.slice a6 3 c6) Sk.abc) := hs6
  clear hb6 hs6 hg6 H5
  have CC := Lib.hid (lv_read H6.out 2)
  have hl3 : Sk.abc.length = 3 := rfl
  rw [hl3]
  clear hl3
  go_wp2_with fail
  refine CC.out.mono ?_
  clear CC
  rintro e w7 ⟨hb7, hr⟩
  rcases hr with ⟨hr, _⟩ | ⟨_, g7, rfl, hg7, hh7⟩
  · exact absurd P2.out.2.2.2.2.2.2.2.2 hr
  rw [show ((2 : Int)).toNat = 2 from rfl, P2.out.2.2.2.2.2.2.2.1] at hh7
  have H7 := Lib.hid (H6.out.top.later hb7)
  have HS7 := Lib.hid (HS6.out.later hb7)
  have hpl : (Sk.padded Sk.abc).length = 512 := by decide
  have hp8 : ∀ x ∈ Sk.padded Sk.abc, x < 256 := fun x hx => by
    rcases List.mem_append.1 hx with q | q
    · exact Sk.abc8 x q
    · rw [List.eq_of_mem_replicate q]; omega
  have HX7 := Lib.hid ((has_sl hh7 hp8 (by rw [hpl]; decide) 512 512 hpl.symm).take 4 (by omega))
  have hc1 := string_of w7 a6 3 c6 Sk.abc ⟨#[97, 98, 99]⟩ HS7.out (by show _ = _; decide)
  have hc2 := string_of w7 (some ⟨g7, 0, none⟩) 4 512 _ ⟨#[97, 98, 99, 0]⟩ HX7.out (by show _ = _; decide)
  clear H6 HS6 HS7 hb7 hg7 hh7 HX7 hpl hp8
  have HZ7 := Lib.hid (HZ.out w7)
  have HB7 : Hid (Below w7.heap.size w7 (w7.alloc OBJ)) := below1 w7 _
  replace hmk := hmk w7
  generalize hW8 : w7.alloc OBJ = w8 at hmk HZ7 HB7
  clear hW8 HZ
  have HS8 := Lib.hid (has_sl HZ7.out (zrow_any 600) (by rw [List.length_replicate]; omega) 600 600 (by rw [List.length_replicate]))
  have CC := Lib.hid (lz_commit (H7.out.later HB7.out) (some ⟨w7.heap.size, 0, none⟩) 600 600 _ HS8.out (Nat.le_refl _) (fun _ g off spot e => by
    injection e with e; injection e with e _ _
    subst e
    exact ⟨Or.inr H7.out.nlt, HZ7.out.lt⟩) (by have := P2.out.2.2.2.2.2.2.1; rw [P2.out.2.1]; unfold Sk.share; omega))
  rw [Sk.v2_r P2.out.2.1 P2.out.2.2.2.1 P2.out.2.2.2.2.2.1 _ (by rw [List.length_replicate])] at CC
  clear HZ7 HB7 HS8 H7
  go_wp2_with fail
  refine CC.out.mono ?_
  clear CC hmk
  rintro e w9 ⟨rfl, h9⟩
  have HB9 : Hid (Below w.heap.size w w9) := h9.below
  clear h9
  have CC := Lib.hid (zroom_any 10 w9)
  rw [show Sk.roomI 10 = 2048 from by decide] at CC
  have CD := Lib.hid (rroom_any 3 w9 (by decide) (by decide))
  rw [show Sk.roomI 3 = 512 from by decide] at CD
  go_wp2_with fail
  refine CC.out.mono ?_
  clear CC
  rintro e w10 ⟨rfl, rfl⟩
  go_wp2_with fail
  refine CD.out.mono ?_
  clear CD
  rintro e w10 ⟨rfl, rfl⟩
  go_wp2_with fail
  go_ret
  exact ⟨rfl, HB9.out⟩
end Go.Proofs.Ythbiibinmofmfaa

/- SlotsBack, SlotsPower: their arguments; what a disk holds from Commit to Commit; a Commit of too many bytes. -/
namespace Go.Proofs.Ythbiibinmofmfaa
set_option maxRecDepth 100000
open Go.ChangeShapes Go.WideShapes Go.ChangeAt Go.RowKit

/-- A slice of bytes that came in, of any length. -/
def Zel (W : World) (v : Value) (l c : Nat) (bs : List Nat) : Prop := l ≤ c ∧ l ≤ 9223372036854775807 ∧ (l ≤ 3000 → Sl W v bs)
theorem el_trod {H : Type} {enc : TypeId × Value → H} {W : World} {fuel : Nat} {cs : List Value} {x : DataW H × List MemPlace}
    (h : DataW.trod enc Try.prog W 0 (fun _ => true) true fuel 35 cs = some x) : ∃ a len cap bs, cs = [.slice a len cap] ∧ Zel W (.slice a len cap) len cap bs := by
  rcases open_ints Try.underlying35 Try.underlying5 Try.cellsU8 h with ⟨rfl, rfl⟩ | ⟨a, len, cap, zs, rfl, _, hl, hm, hz, rfl, hcell, hwz⟩
  · exact ⟨_, _, _, [], rfl, Nat.le_refl _, by omega, fun _ => Sl.nil W⟩
  · have hz' : zs.length = cap := by simpa using hz
    refine ⟨_, _, _, (zs.take len).map Int.toNat, rfl, hl, by unfold maxLen at hm; omega, fun h3 => ⟨some a, len, cap, rfl, by simp; omega, by omega, fun h => by simp at h, ?_, fun h0 => ?_⟩⟩
    · intro y hy
      simp only [List.mem_map] at hy
      obtain ⟨z, hz1, rfl⟩ := hy
      have := wf_u8 (hwz z (List.mem_of_mem_take hz1))
      omega
    · obtain ⟨b, off, spot⟩ := a
      have hc0 := hcell 0 (by omega)
      have hspot : spot = none := by simpa [Addr.add] using World.cell?_spot hc0
      subst hspot
      refine ⟨b, off, rfl, ?_, fun i hi => ?_⟩
      · have := World.block_lt_of_cell? W _ hc0
        simpa [Addr.add] using this
      · have hc := hcell i (by omega)
        have e : (⟨b, off, none⟩ : Addr).add i = ⟨b, off + i, none⟩ := by cases i <;> simp [Addr.add]
        rw [e] at hc
        rw [hc]
        have hi' : i < zs.length := by omega
        have := wf_u8 (hwz zs[i] (List.getElem_mem hi'))
        simp [hi, List.getElem?_eq_getElem hi', List.getD]
        omega

/-- A slice of slices of bytes. -/
def Ells (W : World) (v : Value) : Prop := ∃ a n cap, v = .slice a n cap ∧ n ≤ 9223372036854775807 ∧
  (0 < n → ∃ b off, a = some ⟨b, off, none⟩ ∧ b < W.heap.size ∧ ∀ i, i < n → ∃ ai li ci bs, W.cell? ⟨b, off + i, none⟩ = some (.slice ai li ci) ∧ Zel W (.slice ai li ci) li ci bs)

/-- A slice of truths. -/
def Bls (W : World) (v : Value) : Prop := ∃ a n cap, v = .slice a n cap ∧ n ≤ 9223372036854775807 ∧
  (0 < n → ∃ b off, a = some ⟨b, off, none⟩ ∧ b < W.heap.size ∧ ∀ i, i < n → ∃ t, W.cell? ⟨b, off + i, none⟩ = some (.bool t))
namespace Sk
/-- What holds of the disk of nine sectors between two rounds. -/
def Good (d : Ek.Dk) (last : List Nat) (gen : Nat) (u : Nat) : Prop := Cln d ∧ d.n = 9 ∧ (∃ sl, Loads 9 (Ek.now d) last gen sl) ∧ d.used ≤ u
theorem Good.start : formatE (Ek.fresh 9) = 0 ∧ Good (format (Ek.fresh 9)) [] 0 2 := by
  obtain ⟨a, b, c, d, e⟩ := format_free (Ek.fresh_ok 9 (by decide) (by decide)) (fresh_cln 9) (by decide)
  exact ⟨a, c, b, ⟨0, d⟩, e⟩
theorem Good.told {d : Ek.Dk} {last : List Nat} {gen u : Nat} (h : Good d last gen u) : loadE d = 0 ∧ loadB d = last ∧ loadG d = gen ∧ (says d).gen = gen := by
  obtain ⟨c, n, ⟨sl, l⟩, _⟩ := h
  rw [← n] at l
  obtain ⟨q0, q1, q2, _, q4⟩ := l.told c.2.1 (by omega)
  exact ⟨q0, q1, q2, q4⟩
theorem Good.put {d : Ek.Dk} {last : List Nat} {gen u : Nat} (h : Good d last gen u) (hok : Ek.Ok d) (bs : List Nat) (h8 : ∀ x ∈ bs, x < 256) (hb : bs.length ≤ 2048) (hg : gen < 4294967295) : commitE d bs = 0 ∧ Good (commit d bs) bs (gen + 1) (u + 7) := by
  obtain ⟨c, n, ⟨sl, l⟩, hu⟩ := h
  have l' : Loads d.n (Ek.now d) last gen sl := by rw [n]; exact l
  obtain ⟨p1, p2, p3, p4, p5, p6⟩ := commit_free hok c (by omega) l' hg bs h8 (by rw [n]; exact hb)
  refine ⟨p1, p3, p2.trans n, ⟨_, by rw [n] at p4; exact p4⟩, ?_⟩
  have : pieces bs ≤ 4 := by unfold pieces; omega
  omega
theorem Good.crash {d : Ek.Dk} {last : List Nat} {gen u : Nat} (h : Good d last gen u) (keep : Nat → Int) : Good (Ek.crash d keep) last gen u := by
  obtain ⟨⟨c1, c2, c3⟩, n, ⟨sl, l⟩, hu⟩ := h
  have hs : ∀ i, Ek.now (Ek.crash d keep) i = Ek.now d i := fun i => by rw [Ek.now_crash, Ek.now_clean c1, c1]; rfl
  refine ⟨⟨rfl, rfl, rfl⟩, n, ⟨sl, ?_⟩, hu⟩
  rw [show Ek.now (Ek.crash d keep) = Ek.now d from funext hs]
  exact l
theorem Good.up {d : Ek.Dk} {last : List Nat} {gen u v : Nat} (h : Good d last gen u) (hv : u ≤ v) : Good d last gen v := ⟨h.1, h.2.1, h.2.2.1, Nat.le_trans h.2.2.2 hv⟩
end Sk

set_option maxRecDepth 100000 in
set_option maxHeartbeats 4000000 in
theorem commit_long (w : World) (S : Nat → Prop) (b : Nat) (d : Ek.Dk) (h : Dsk w S b d) (a : Option Addr) (len cap : Nat) (hl : Sk.loadE d = 0) (hg : (Sk.says d).gen ≠ 4294967295) (hrm : Sk.room d.n < len) : Calls Try.prog 10 #[.pointer (some ⟨b, 0, none⟩), .slice a len cap] w (DP w S b d (.int .i64 7)) := by
  have HC : Hid (Calls Try.prog 27 #[.pointer (some ⟨b, 0, none⟩)] w fun e w' => (∃ a6 c6, e = .returned (.tuple #[sts (Sk.says d), .slice a6 (Sk.says d).size c6, .int .i64 0])) ∧ Below w.heap.size w w') := (load_any w S b d h).mono fun e w' hp => by
    obtain ⟨h1, h2⟩ := hp
    rcases h2 with ⟨h2, _⟩ | ⟨_, a6, c6, h2, _⟩
    · exact absurd hl h2
    · exact ⟨⟨a6, c6, h2⟩, h1⟩
  have HQ2 : Hid (∀ w', Below w.heap.size w w' → DP w S b d (.int .i64 7) (.returned (.int .i64 7)) w') := fun w' hb => (dp_same (h.later hb) _).base hb
  have HLEN : Hid (∀ wx, Below w.heap.size w wx → Calls Try.prog 28 #[.pointer (some ⟨b, 0, none⟩)] wx fun e w' => e = .returned (.int .i64 (d.n : Int)) ∧ wx = w') := fun wx hb => len_any wx S b d (h.later hb)
  have HROOM : Hid (∀ wx, Calls Try.prog 22 #[.int .i64 (d.n : Int)] wx fun e w' => e = .returned (.int .i64 ((Sk.room d.n : Nat) : Int)) ∧ wx = w') := fun wx => by have := zroom_any (d.n : Int) wx; rw [Sk.roomI_nat] at this; exact this
  have hge : (((Sk.says d).gen : Nat) : Int) ≠ 4294967295 := by omega
  have hd0 : decide (((Sk.room d.n : Nat) : Int) < (len : Int)) = true := decide_eq_true (by omega)
  generalize Sk.room d.n = RM at HROOM hd0 hrm
  obtain ⟨N, hN⟩ : ∃ N, N = d.n := ⟨_, rfl⟩
  rw [← hN] at HLEN HROOM
  generalize Sk.says d = s at HC hge
  obtain ⟨g, sl, sz, sm⟩ := s
  unfold sts at HC
  dsimp only at HC hge
  have hg1 : ((g : Int) == 4294967295) = false := by simpa using hge
  clear h hl hg hge hN
  go_enter Try.func10, Try.ntmps10
  go_wp2_with fail
  refine HC.out.mono ?_
  clear HC
  rintro e w2 ⟨⟨a6, c6, rfl⟩, hb⟩
  have HB2 : Hid (Below w.heap.size w (w2.alloc (.cells #[.int .i64 (g : Int), .int .i64 (sl : Int), .int .i64 (sz : Int), .int .i64 (sm : Int)] 67))) := hb.trans ((below1 w2 _).mono hb.size)
  have HS2 : Hid (Has (w2.alloc (.cells #[.int .i64 (g : Int), .int .i64 (sl : Int), .int .i64 (sz : Int), .int .i64 (sm : Int)] 67)) w2.heap.size (.cells #[.int .i64 (g : Int), .int .i64 (sl : Int), .int .i64 (sz : Int), .int .i64 (sm : Int)] 67 (0, 0))) := Has.new w2 _
  have q0 : (w2.alloc (.cells #[.int .i64 (g : Int), .int .i64 (sl : Int), .int .i64 (sz : Int), .int .i64 (sm : Int)] 67)).cell? ⟨w2.heap.size, 0, none⟩ = some (.int .i64 (g : Int)) := HS2.out.cell 0
  have q1 : (w2.alloc (.cells #[.int .i64 (g : Int), .int .i64 (sl : Int), .int .i64 (sz : Int), .int .i64 (sm : Int)] 67)).cell? ⟨w2.heap.size, 1, none⟩ = some (.int .i64 (sl : Int)) := HS2.out.cell 1
  clear hb
  go_wp2_with fail
  refine (HLEN.out _ HB2.out).mono ?_
  rintro e w' ⟨rfl, rfl⟩
  go_wp2_with fail
  refine (HROOM.out _).mono ?_
  rintro e w' ⟨rfl, rfl⟩
  go_wp2_with fail
  go_ret
  exact HQ2.out _ HB2.out
theorem lz_long {w0 w : World} {b : Nat} {d : Ek.Dk} {N : Nat} (h : Lv w0 w b d N) {last : List Nat} {gen u : Nat} (hG : Sk.Good d last gen u) (hg : gen < 4294967295) (a : Option Addr) (len cap : Nat) (hl : 2048 < len) : Calls Try.prog 10 #[.pointer (some ⟨b, 0, none⟩), .slice a len cap] w (LvP w0 b d (.int .i64 7)) := by
  obtain ⟨S, hd, hS, hn, hb⟩ := h
  obtain ⟨q0, _, _, q3⟩ := hG.told
  exact (commit_long w S b d hd a len cap q0 (by omega) (by rw [hG.2.1]; exact hl)).mono fun e w' hp => LvP.of hS hn hb hp
/-- The slices of bytes, at all later worlds. -/
def EllAt (w : World) (a : Option Addr) (n : Nat) : Prop := ∀ k, k < n → ∃ b off ai li ci bs, a = some ⟨b, off, none⟩ ∧ li ≤ ci ∧ (li ≤ 3000 → 0 < li → ∀ g off spot, ai = some ⟨g, off, spot⟩ → g < w.heap.size) ∧ ∀ w', Below w.heap.size w w' → w'.cell? ⟨b, off + k, none⟩ = some (.slice ai li ci) ∧ (li ≤ 3000 → Sl w' (.slice ai li ci) bs)
theorem ell_at {w : World} {a : Option Addr} {n : Nat} (h : 0 < n → ∃ b off, a = some ⟨b, off, none⟩ ∧ b < w.heap.size ∧ ∀ i, i < n → ∃ ai li ci bs, w.cell? ⟨b, off + i, none⟩ = some (.slice ai li ci) ∧ Zel w (.slice ai li ci) li ci bs) : EllAt w a n := fun k hk => by
  obtain ⟨b, off, ha, hb, hc⟩ := h (by omega)
  obtain ⟨ai, li, ci, bs, h1, h2, _, h4⟩ := hc k hk
  refine ⟨b, off, ai, li, ci, bs, ha, h2, fun h3 h0 g o s e => ?_, fun w' hw => ⟨(World.cell?_of_block (a := ⟨b, off + k, none⟩) (hw.block b hb)).trans h1, fun h3 => (h4 h3).later hw⟩⟩
  obtain ⟨a', l', c', q, _, _, _, _, q5⟩ := h4 h3
  injection q with q1 q2 q3
  subst q1 q2 q3
  obtain ⟨b', o', q, q6, _⟩ := q5 h0
  rw [e] at q
  injection q with q; injection q with q _ _
  rw [q]; exact q6
def BlAt (w : World) (a : Option Addr) (n : Nat) : Prop := ∀ k, k < n → ∃ b off t, a = some ⟨b, off, none⟩ ∧ ∀ w', Below w.heap.size w w' → w'.cell? ⟨b, off + k, none⟩ = some (.bool t)
theorem bl_at {w : World} {a : Option Addr} {n : Nat} (h : 0 < n → ∃ b off, a = some ⟨b, off, none⟩ ∧ b < w.heap.size ∧ ∀ i, i < n → ∃ t, w.cell? ⟨b, off + i, none⟩ = some (.bool t)) : BlAt w a n := fun k hk => by
  obtain ⟨b, off, ha, hb, hc⟩ := h (by omega)
  obtain ⟨t, h1⟩ := hc k hk
  exact ⟨b, off, t, ha, fun w' hw => (World.cell?_of_block (a := ⟨b, off + k, none⟩) (hw.block b hb)).trans h1⟩
theorem ks_nil (w : World) : Ks w (.slice none 0 0) [] := ⟨none, 0, rfl, by simp, by simp, fun h => absurd h (by simp)⟩
theorem lz_loose0 {w0 w : World} {b : Nat} {d : Ek.Dk} {N : Nat} (h : Lv w0 w b d N) (hl : d.loose = []) : Calls Try.prog 42 #[.pointer (some ⟨b, 0, none⟩)] w fun e w' => e = .returned (.int .i64 0) ∧ w = w' :=
  (lv_loose h).mono fun e w' hp => by rw [hl] at hp; exact hp
end Go.Proofs.Ythbiibinmofmfaa
