/- The statement SlotsTurned: a header of which one byte is another one is refused, and so are bytes of the slot. It holds for every input, without a condition. -/
import Derived.Test.YtfihljibfnnahaaZturn
import Derived.Test.YtfihljibfnnahaaEcopy
import Derived.Test.YtfihljibfnnahaaCcap

namespace Go.Proofs.Ytfihljibfnnahaa
set_option maxRecDepth 100000
open Go.ChangeShapes Go.WideShapes Go.ChangeAt Go.RowKit

theorem u8_xor' (a b : Nat) (ha : a < 256) (hb : b < 256) : bits BinOp.xor IntKind.u8 (a : Int) (b : Int) = ((a ^^^ b : Nat) : Int) := by
  show IntKind.u8.wrap (((BitVec.ofInt 8 a ^^^ BitVec.ofInt 8 b).toNat : Nat) : Int) = _
  have h : a ^^^ b < 2 ^ 8 := Nat.xor_lt_two_pow (by omega) (by omega)
  rw [BitVec.toNat_xor, BitVec.toNat_ofInt, BitVec.toNat_ofInt]
  have e1 : ((a : Int) % ((2 ^ 8 : Nat) : Int)).toNat = a := by omega
  have e2 : ((b : Int) % ((2 ^ 8 : Nat) : Int)).toNat = b := by omega
  rw [e1, e2, IntKind.wrap_u8]
  omega
theorem u8_nat {n : Int} (h : (Lit.int .u8 n).wf = true) : ∃ m : Nat, n = (m : Int) ∧ m < 256 := by
  have := wf_u8 h
  exact ⟨n.toNat, by omega, by omega⟩
theorem xor_other (x m : Nat) (hm : m ≠ 0) : x ^^^ m ≠ x := fun h => hm (by
  have : x ^^^ (x ^^^ m) = x ^^^ x := by rw [h]
  rwa [← Nat.xor_assoc, Nat.xor_self, Nat.zero_xor] at this)
/-- One byte of a row that lies alone is turned. -/
theorem row_turn {w : World} {g : Nat} {t : TypeId} {row : List Nat} (h : Has w g (.cells (vb row).toArray t (0, 0))) (r z : Nat) : Has (w.setCell ⟨g, r, none⟩ (.int .u8 ((z : Nat) : Int))) g (.cells (vb (row.set r z)).toArray t (0, 0)) := by
  have := h.setSelf (i := r) (.int .u8 ((z : Nat) : Int))
  rw [vb_set]
  simpa using this
theorem row_at {w : World} {g : Nat} {t : TypeId} {row : List Nat} (h : Has w g (.cells (vb row).toArray t (0, 0))) (r : Nat) (hr : r < row.length) : w.cell? ⟨g, r, none⟩ = some (.int .u8 (((row[r]?.getD 0 : Nat)) : Int)) := by
  rw [h.cell, List.getElem?_toArray, vb_get, List.getElem?_eq_getElem hr]
  simp
theorem copy_lv {w : World} {b : Nat} {d : Ek.Dk} {w0 : World} {N : Nat} (h : Lv w0 w b d N) : Calls Try.prog 42 #[.pointer (some ⟨b, 0, none⟩)] w fun e w' => ∃ c, e = .returned (.pointer (some ⟨c, 0, none⟩)) ∧ Lv w w' c d w'.heap.size := by
  obtain ⟨S, hd, _⟩ := h
  exact (copy_any w S b d hd).mono fun e w' hp => by
    obtain ⟨c, T, h1, h2, h3, h4⟩ := hp
    exact ⟨c, h1, T, h2, h3, Nat.le_refl _, h4⟩
/-- A write of bytes that lay there ahead of the disk. -/
theorem lw_write {w0 w : World} {b : Nat} {d : Ek.Dk} {N : Nat} (h : Lv w0 w b d N) (i : Int) (s : Value) (bs : List Nat) (hs : Sl w s bs) (hg : ∀ g off spot len cap, s = .slice (some ⟨g, off, spot⟩) len cap → g < w0.heap.size ∨ N ≤ g) (hu : d.used < 1000000) :
    Calls Try.prog 19 #[.pointer (some ⟨b, 0, none⟩), .int .i64 i, s] w (LvP w0 b (Ek.write d i bs) (.int .i64 (Ek.writeE d i bs))) := by
  obtain ⟨S, hd, hS, hn, hb⟩ := h
  exact (write_any w S b d i bs s hd hs (fun g off spot len cap e hk => by have := hg g off spot len cap e; have := hS g hk; omega) hu).mono fun e w' hp => LvP.of hS hn hb hp
theorem lz_read {w0 w : World} {b : Nat} {d : Ek.Dk} {N : Nat} (h : Lv w0 w b d N) (i : Nat) (hi : i < d.n) (hd : d.dark = false) : Calls Try.prog 21 #[.pointer (some ⟨b, 0, none⟩), .int .i64 (i : Int)] w fun e w' => Below w.heap.size w w' ∧ ∃ g, e = .returned (.tuple #[.slice (some ⟨g, 0, none⟩) 512 512, .int .i64 0]) ∧ w.heap.size ≤ g ∧ Has w' g (.cells (vb (Ek.now d i)).toArray 92 (0, 0)) :=
  (lv_read h (i : Int)).mono fun e w' hp => by
    obtain ⟨hb, hp⟩ := hp
    have e0 : Ek.readE d (i : Int) = 0 := by unfold Ek.readE; rw [if_neg (by omega), if_neg (by simp [hd])]
    rcases hp with ⟨q, _⟩ | ⟨_, g, q1, q2, q3⟩
    · exact absurd e0 q
    · exact ⟨hb, g, q1, q2, by rw [Int.toNat_natCast] at q3; exact q3⟩

namespace Sk
/-- The disk of nine sectors with one Commit. -/
def Once (d : Ek.Dk) (bs : List Nat) : Prop := Cln d ∧ d.n = 9 ∧ d.used ≤ 20 ∧ Ek.Ok d ∧ Loads 9 (Ek.now d) bs 1 1
theorem once (hok : Ek.Ok (format (Ek.fresh 9))) (bs : List Nat) (h8 : ∀ x ∈ bs, x < 256) (hb : bs.length ≤ 2048) : commitE (format (Ek.fresh 9)) bs = 0 ∧ (Ek.Ok (commit (format (Ek.fresh 9)) bs) → Once (commit (format (Ek.fresh 9)) bs) bs) := by
  obtain ⟨_, n, c, l, hu⟩ := format_free (Ek.fresh_ok 9 (by decide) (by decide)) (fresh_cln 9) (by decide)
  have n' : (format (Ek.fresh 9)).n = 9 := n
  have hu' : (format (Ek.fresh 9)).used ≤ 2 := hu
  have l' : Loads (format (Ek.fresh 9)).n (Ek.now (format (Ek.fresh 9))) [] 0 0 := by rw [n']; exact l
  obtain ⟨p1, p2, p3, p4, p5, p6⟩ := commit_free hok c (by omega) l' (by decide) bs h8 (by rw [n']; exact hb)
  refine ⟨p1, fun h => ⟨p3, p2.trans n', ?_, h, by rw [n'] at p4; exact p4⟩⟩
  have : pieces bs ≤ 4 := by unfold pieces; omega
  omega
theorem Once.header {d : Ek.Dk} {bs : List Nat} (h : Once d bs) {r z : Nat} (hr : r < 512) (hz : z < 256) (hne : z ≠ (Ek.now d 0)[r]?.getD 0) : Ek.writeE d ((0 : Nat) : Int) ((Ek.now d 0).set r z) = 0 ∧ loadE (Ek.write d ((0 : Nat) : Int) ((Ek.now d 0).set r z)) = 15 := by
  obtain ⟨⟨c1, c2, c3⟩, n, hu, hok, s, hF, h0, _⟩ := h
  have hl : ((Ek.now d 0).set r z).length = 512 := by rw [List.length_set]; exact (Ek.now_row hok 0).1
  obtain ⟨b1, b2, b3, b4, b5, _⟩ := Ek.put_on (i := 0) (r := (Ek.now d 0).set r z) c2 (by rw [c3]; decide) (by omega) hl
  refine ⟨b1, wrong_load (by rw [b5]; omega) b2 ?_⟩
  rw [Ek.now_put c1 b3 b4, if_pos rfl, h0]
  rw [h0] at hne
  exact turned_bad hr hz hne
theorem once_bytes {d : Ek.Dk} {bs : List Nat} (h : Once d bs) (h8 : ∀ x ∈ bs, x < 256) {k z : Nat} (hk : k < bs.length) (hz : z < 256) (hb : bs.length ≤ 2048) (hne : z ≠ (Ek.now d (5 + k / 512))[k % 512]?.getD 0) : Ek.writeE d ((5 + k / 512 : Nat) : Int) ((Ek.now d (5 + k / 512)).set (k % 512) z) = 0 ∧ loadE (Ek.write d ((5 + k / 512 : Nat) : Int) ((Ek.now d (5 + k / 512)).set (k % 512) z)) = 15 := by
  obtain ⟨⟨c1, c2, c3⟩, n, hu, hok, s, hF, h0, hsl, _, hsz, hg, hby, hsum⟩ := h
  have hlr : ∀ i, (Ek.now d i).length = 512 := fun i => (Ek.now_row hok i).1
  have hl : ((Ek.now d (5 + k / 512)).set (k % 512) z).length = 512 := by rw [List.length_set]; exact hlr _
  obtain ⟨b1, b2, b3, b4, b5, _⟩ := Ek.put_on (i := 5 + k / 512) (r := (Ek.now d (5 + k / 512)).set (k % 512) z) c2 (by rw [c3]; decide) (by omega) hl
  refine ⟨b1, turned_load (by rw [b5]; omega) b2 hF ?_ ?_⟩
  · rw [Ek.now_put c1 b3 b4, if_neg (by omega), h0]
  · have hfr : front 9 s.slot = 5 := by rw [hsl]; rfl
    have hlen : bs.length ≤ s.size := by rw [← hby]; unfold bytes; rw [List.length_take]; omega
    have hst : bytes 9 (Ek.now (Ek.write d ((5 + k / 512 : Nat) : Int) ((Ek.now d (5 + k / 512)).set (k % 512) z))) s.slot s.size = (bytes 9 (Ek.now d) s.slot s.size).set k z :=
      bytes_set hlr (by omega) (by rw [hfr, Ek.now_put c1 b3 b4, if_pos rfl]) (fun i hi => by rw [Ek.now_put c1 b3 b4, if_neg (by rw [hfr] at hi; exact hi)])
    rw [b5, n, hst, hby, ← hsum]
    refine Cr.sum_turned bs k z hk ?_ hz ?_
    · rw [List.getElem?_eq_getElem hk]; exact h8 _ (List.getElem_mem _)
    · have e : bs[k]? = (Ek.now d (5 + k / 512))[k % 512]? := by
        rw [← hby]
        unfold Sk.bytes
        rw [List.getElem?_take_of_lt (by omega), hfr]
        exact secs_at _ 5 hlr _ k (by omega)
      rw [e]; exact hne
end Sk

set_option maxRecDepth 100000 in
set_option maxHeartbeats 8000000 in
theorem turned_main (a : Option Addr) (n cap : Nat) (bs : List Nat) (K m : Nat) (w : World) (hs : Sl w (.slice a n cap) bs) (hc : n ≤ cap) (hn : n ≤ 2048) (hm0 : m ≠ 0) (hm : m < 256) (hK : (K : Int) ≤ 9223372036854775807) :
    Calls Try.prog 10 #[.slice a n cap, .int .i64 (K : Int), .int .u8 (m : Int)] w fun e w' => e = .returned (.bool true) ∧ Below w.heap.size w w' := by
  have l0 : decide ((2048 : Int) < (n : Int)) = false := decide_eq_false (by omega)
  have e0 : (((m : Nat) : Int) == 0) = false := by simp; omega
  have l1 : decide ((K : Int) < 0) = false := decide_eq_false (by omega)
  have hlen : bs.length = n := by
    obtain ⟨a', len', cap', e, q1, _⟩ := hs
    injection e with e1 e2 e3; omega
  have HS := Lib.hid hs
  have HC := Lib.hid hc
  have H8 := Lib.hid hs.facts8
  have HL := Lib.hid hlen
  have HN := Lib.hid hn
  have HM0 := Lib.hid hm0
  have HM := Lib.hid hm
  have HADR : Hid (0 < n → ∀ g off spot, a = some ⟨g, off, spot⟩ → g < w.heap.size) := fun h0 g o s e => by
    obtain ⟨a', l', c', q, _, _, _, _, q5⟩ := hs
    injection q with q1 q2 q3
    subst q1 q2 q3
    obtain ⟨b', o', q, q6, _⟩ := q5 h0
    rw [e] at q
    injection q with q; injection q with q _ _
    rw [q]; exact q6
  obtain ⟨r, hr⟩ : ∃ r, r = K % 512 := ⟨_, rfl⟩
  have m0 : ((K : Nat) : Int).tmod 512 = ((r : Nat) : Int) := by rw [Int.tmod_eq_emod_of_nonneg (by omega)]; omega
  have m1 : IntKind.i64.wrap ((r : Nat) : Int) = ((r : Nat) : Int) := IntWalk.i64_in _ (by omega)
  have r5 : r < 512 := by omega
  have r6 : (r : Int) < 512 := by omega
  have r7 : (0 : Int) ≤ (r : Int) := by omega
  clear hs hc hlen hn hm0 hm hr
  go_enter Try.func10, Try.ntmps10
  go_wp2_with fail
  refine (lv_new (Below.refl w.heap.size w) 9 (by omega) (by omega)).mono ?_
  rintro e w1 ⟨b, rfl, H1⟩
  have CC := Lib.hid (lz_format H1 (by decide))
  rw [Sk.Good.start.1] at CC
  clear H1
  go_wp2_with fail
  refine CC.out.mono ?_
  clear CC
  rintro e w2 ⟨rfl, h2⟩
  have H2 : Hid (Lv w w2 b (Sk.format (Ek.fresh 9)) w2.heap.size) := h2
  obtain ⟨p1, p2⟩ := Sk.once H2.out.ok bs H8.out (by rw [HL.out]; exact HN.out)
  have CC := Lib.hid (lz_commit H2.out a n cap bs (HS.out.later H2.out.below) HC.out (fun h0 gg off spot e => ⟨Or.inl (HADR.out h0 gg off spot e), Nat.lt_of_lt_of_le (HADR.out h0 gg off spot e) H2.out.below.size⟩) (by have := Sk.Good.start.2.2.2.2; have n9 := Sk.Good.start.2.2.1; rw [n9]; unfold Sk.share; omega))
  rw [p1] at CC
  have HP := Lib.hid p2
  generalize Sk.commit (Sk.format (Ek.fresh 9)) bs = d at CC HP
  clear h2 p1 p2 H2
  go_wp2_with fail
  refine CC.out.mono ?_
  clear CC
  rintro e w3 ⟨rfl, h3⟩
  have H3 : Hid (Lv w w3 b d w3.heap.size) := h3
  have HO := Lib.hid (HP.out H3.out.ok)
  clear h3 HP
  have CC := Lib.hid (lz_read H3.out 0 (by rw [HO.out.2.1]; omega) HO.out.1.2.1)
  go_wp2_with fail
  refine CC.out.mono ?_
  clear CC
  rintro e w4 ⟨hb4, g, rfl, hg4, hh4⟩
  have HB4 := Lib.hid hb4
  have HG4 := Lib.hid hg4
  have HH4 := Lib.hid hh4
  clear hb4 hg4 hh4
  obtain ⟨x, hx⟩ : ∃ x, x = (Ek.now d 0)[r]?.getD 0 := ⟨_, rfl⟩
  have q0 := row_at HH4.out r (by rw [(Ek.now_row HO.out.2.2.2.1 0).1]; exact r5)
  rw [← hx] at q0
  have x8 : x < 256 := by
    rw [hx, List.getElem?_eq_getElem (by rw [(Ek.now_row HO.out.2.2.2.1 0).1]; exact r5)]
    exact (Ek.now_row HO.out.2.2.2.1 0).2 _ (List.getElem_mem _)
  obtain ⟨z, hz⟩ : ∃ z, z = x ^^^ m := ⟨_, rfl⟩
  have z8 : z < 256 := by rw [hz]; exact Nat.xor_lt_two_pow (n := 8) x8 HM.out
  have hxor := u8_xor' x m x8 HM.out
  rw [← hz] at hxor
  have hne : z ≠ (Ek.now d 0)[r]?.getD 0 := by rw [← hx, hz]; exact xor_other x m HM0.out
  obtain ⟨t1, t2⟩ := HO.out.header r5 z8 hne
  have T1 := Lib.hid t1
  have T2 := Lib.hid t2
  have HT4 := Lib.hid (row_turn HH4.out r z)
  have HB5 : Hid (Below w3.heap.size w3 (w4.setCell ⟨g, r, none⟩ (.int .u8 ((z : Nat) : Int)))) := HB4.out.setCell (p := ⟨g, r, none⟩) (by exact HG4.out) _
  have HF4 := HH4.out.free r
  have HR0 : Hid ((Ek.now d 0).length = 512 ∧ ∀ y ∈ (Ek.now d 0).set r z, y < 256) := ⟨(Ek.now_row HO.out.2.2.2.1 0).1, fun y hy => (List.mem_or_eq_of_mem_set hy).elim ((Ek.now_row HO.out.2.2.2.1 0).2 y) (fun e => e ▸ z8)⟩
  have HX8 := Lib.hid x8
  clear hx hz t1 t2 hne x8 z8
  go_wp2_with fail
  generalize w4.setCell ⟨g, r, none⟩ (.int .u8 ((z : Nat) : Int)) = w5 at HT4 HB5 ⊢
  have H5 := Lib.hid (H3.out.later HB5.out)
  clear HB4 HH4 q0 hxor HF4 m0 m1 HB5
  refine (copy_lv H5.out).mono ?_
  rintro e w6 ⟨c, rfl, h6⟩
  have H6 := Lib.hid h6
  have HGL := Lib.hid HT4.out.lt
  have HS6 := Lib.hid ((has_sl HT4.out HR0.out.2 (by rw [List.length_set, HR0.out.1]; decide) 512 512 (by rw [List.length_set, HR0.out.1])).later h6.below)
  have CC := Lib.hid (lw_write H6.out ((0 : Nat) : Int) _ _ HS6.out (fun g' off spot len cap e => by
    injection e with e1 _ _; injection e1 with e1; injection e1 with e1 _ _
    exact Or.inl (by rw [← e1]; exact HGL.out)) (by have := HO.out.2.2.1; omega))
  rw [T1.out] at CC
  have HE : Hid (Sk.loadB (Ek.write d ((0 : Nat) : Int) ((Ek.now d 0).set r z)) = [] ∧ Sk.loadG (Ek.write d ((0 : Nat) : Int) ((Ek.now d 0).set r z)) = 0) := ⟨by unfold Sk.loadB; rw [if_neg (by rw [T2.out]; decide)], by unfold Sk.loadG; rw [if_neg (by rw [T2.out]; decide)]⟩
  generalize Ek.write d ((0 : Nat) : Int) ((Ek.now d 0).set r z) = dx at CC HE T2
  clear h6 H6 HS6 HT4 HR0 HGL T1
  go_wp2_with fail
  refine CC.out.mono ?_
  clear CC
  rintro e w7 ⟨rfl, h7⟩
  have H7 : Hid (Lv w5 w7 c dx w7.heap.size) := h7
  clear h7
  have CL := Lib.hid (lz_load H7.out)
  go_wp2_with fail
  refine CL.out.mono ?_
  clear CL
  rintro e w8 ⟨hb8, a8, c8, rfl, hrest⟩
  clear hrest
  rw [HE.out.1, HE.out.2, T2.out]
  have HW := Lib.hid (H5.out.later (H7.out.below.trans (hb8.mono H7.out.below.size)))
  clear hb8 H7 HE T2 H5 H3
  by_cases hn0 : n = 0
  · have c0 : (((n : Nat) : Int) == 0) = true := by simp; omega
    have HBx := Lib.hid HW.out.below
    clear HW
    go_wp2_with fail
    refine (zlives_is w8).mono ?_
    rintro e w9 ⟨rfl, hb9⟩
    have HB9 := Lib.hid (HBx.out.trans (hb9.mono HBx.out.size))
    clear hb9
    go_wp2_with fail
    go_ret
    exact ⟨rfl, HB9.out⟩
  · have c0 : (((n : Nat) : Int) == 0) = false := by simp; omega
    have c3 : (0 : Int) < (n : Int) := by omega
    obtain ⟨k, hk⟩ : ∃ k, k = K % n := ⟨_, rfl⟩
    have hkn : k < n := by rw [hk]; exact Nat.mod_lt _ (by omega)
    have m0 : ((K : Nat) : Int).tmod ((n : Nat) : Int) = ((k : Nat) : Int) := by rw [Int.tmod_eq_emod_of_nonneg (by omega), hk]; omega
    have hk4 : (k : Int) < 2048 := by have := HN.out; omega
    have m1 : IntKind.i64.wrap ((k : Nat) : Int) = ((k : Nat) : Int) := IntWalk.i64_in _ (by omega)
    obtain ⟨q, hq⟩ : ∃ q, q = k / 512 := ⟨_, rfl⟩
    obtain ⟨s, hs⟩ : ∃ s, s = k % 512 := ⟨_, rfl⟩
    have m2 : ((k : Nat) : Int).tdiv 512 = ((q : Nat) : Int) := by rw [Int.tdiv_eq_ediv_of_nonneg (by omega)]; omega
    have m3 : ((k : Nat) : Int).tmod 512 = ((s : Nat) : Int) := by rw [Int.tmod_eq_emod_of_nonneg (by omega)]; omega
    have q4 : (q : Int) < 4 := by omega
    have q5 : (0 : Int) ≤ (q : Int) := by omega
    have s5 : s < 512 := by omega
    have s6 : (s : Int) < 512 := by omega
    have s7 : (0 : Int) ≤ (s : Int) := by omega
    have HQ := Lib.hid hq
    have HSS := Lib.hid hs
    have HKN := Lib.hid hkn
    clear hk hq hs hkn
    go_wp2_with fail
    have CR := lz_read HW.out (5 + q) (by rw [HO.out.2.1]; omega) HO.out.1.2.1
    rw [show ((5 + q : Nat) : Int) = 5 + (q : Int) by omega] at CR
    refine CR.mono ?_
    clear CR
    rintro e w9 ⟨hb9, g2, rfl, hg9, hh9⟩
    have HB9 := Lib.hid hb9
    have HG9 := Lib.hid hg9
    have HH9 := Lib.hid hh9
    clear hb9 hg9 hh9
    obtain ⟨x2, hx2⟩ : ∃ x, x = (Ek.now d (5 + q))[s]?.getD 0 := ⟨_, rfl⟩
    have hrw := Ek.now_row HO.out.2.2.2.1 (5 + q)
    have q1 := row_at HH9.out s (by rw [hrw.1]; exact s5)
    rw [← hx2] at q1
    have x28 : x2 < 256 := by
      rw [hx2, List.getElem?_eq_getElem (by rw [hrw.1]; exact s5)]
      exact hrw.2 _ (List.getElem_mem _)
    obtain ⟨z2, hz2⟩ : ∃ z, z = x2 ^^^ m := ⟨_, rfl⟩
    have z28 : z2 < 256 := by rw [hz2]; exact Nat.xor_lt_two_pow (n := 8) x28 HM.out
    have hxor2 := u8_xor' x2 m x28 HM.out
    rw [← hz2] at hxor2
    have hne : z2 ≠ (Ek.now d (5 + k / 512))[k % 512]?.getD 0 := by rw [← HQ.out, ← HSS.out, ← hx2, hz2]; exact xor_other x2 m HM0.out
    have tt := Sk.once_bytes HO.out H8.out (by rw [HL.out]; exact HKN.out) z28 (by rw [HL.out]; exact HN.out) hne
    rw [← HQ.out, ← HSS.out] at tt
    have TT := Lib.hid tt
    have HT9 := Lib.hid (row_turn HH9.out s z2)
    have HB10 : Hid (Below w8.heap.size w8 (w9.setCell ⟨g2, s, none⟩ (.int .u8 ((z2 : Nat) : Int)))) := HB9.out.setCell (p := ⟨g2, s, none⟩) (by exact HG9.out) _
    have HF9 := HH9.out.free s
    have HR9 : Hid (((Ek.now d (5 + q)).set s z2).length = 512 ∧ ∀ y ∈ (Ek.now d (5 + q)).set s z2, y < 256) := ⟨by rw [List.length_set]; exact hrw.1, fun y hy => (List.mem_or_eq_of_mem_set hy).elim (hrw.2 y) (fun e => e ▸ z28)⟩
    have HX28 := Lib.hid x28
    clear hx2 hz2 tt hne x28 z28 hrw
    have HS9 := Lib.hid (has_sl HT9.out HR9.out.2 (by rw [HR9.out.1]; decide) 512 512 HR9.out.1.symm)
    have CC := Lib.hid (lw_write (HW.out.later HB10.out) ((5 + q : Nat) : Int) _ _ HS9.out (fun g' off spot len cap e => by
      injection e with e1 _ _; injection e1 with e1; injection e1 with e1 _ _
      exact Or.inr (by rw [← e1]; exact Nat.le_trans HW.out.nlt HG9.out)) (by have := HO.out.2.2.1; omega))
    rw [TT.out.1] at CC
    have HT2 := Lib.hid TT.out.2
    generalize Ek.write d ((5 + q : Nat) : Int) ((Ek.now d (5 + q)).set s z2) = dx at CC HT2
    rw [show ((5 + q : Nat) : Int) = 5 + (q : Int) by omega] at CC
    clear TT HR9 HB9 HH9 HT9 HS9 HW
    go_wp2_with fail
    generalize w9.setCell ⟨g2, s, none⟩ (.int .u8 ((z2 : Nat) : Int)) = w10 at CC ⊢
    refine CC.out.mono ?_
    clear CC
    rintro e w11 ⟨rfl, h11⟩
    have H11 : Hid (Lv w w11 b dx w11.heap.size) := h11
    clear h11
    have CL := Lib.hid (lz_load H11.out)
    go_wp2_with fail
    refine CL.out.mono ?_
    clear CL
    rintro e w12 ⟨hb12, a12, c12, rfl, hrest⟩
    clear hrest
    rw [HT2.out]
    have HBx := Lib.hid (H11.out.below.trans (hb12.mono H11.out.below.size))
    clear hb12 H11 HT2
    go_wp2_with fail
    refine (zlives_is w12).mono ?_
    rintro e w9 ⟨rfl, hb9⟩
    have HB9 := Lib.hid (HBx.out.trans (hb9.mono HBx.out.size))
    clear hb9
    go_wp2_with fail
    go_ret
    exact ⟨rfl, HB9.out⟩

set_option maxRecDepth 100000 in
set_option maxHeartbeats 2000000 in
theorem slotsTurned_walk (v : Value) (bs : List Nat) (at' : Int) (m : Nat) (w : World) (hs : Sl w v bs) (_ln : bs.length ≤ reachBytes) (hcp : Capped v) (lo : -9223372036854775808 ≤ at') (hi : at' ≤ 9223372036854775807) (hm : m < 256) :
    Calls Try.prog 10 #[v, .int .i64 at', .int .u8 ((m : Nat) : Int)] w fun e w' => e = .returned (.bool true) ∧ Below w.heap.size w w' := by
  obtain ⟨a, n, cap, rfl, hn⟩ : ∃ a n cap, v = .slice a n cap ∧ n = bs.length := by
    obtain ⟨a', l', c', e, h1, _⟩ := hs
    exact ⟨a', l', c', e, h1⟩
  by_cases h1 : n ≤ 2048
  · have l0 : decide ((2048 : Int) < (n : Int)) = false := decide_eq_false (by omega)
    by_cases h2 : m = 0
    · have e0 : (((m : Nat) : Int) == 0) = true := by simp; omega
      clear h2 hs hcp lo hi hm hn _ln
      have HBx : Hid (Below w.heap.size w w) := Below.refl _ _
      go_enter Try.func10, Try.ntmps10
      go_wp2_with fail
      refine (zlives_is w).mono ?_
      rintro e w9 ⟨rfl, hb9⟩
      have HB9 := Lib.hid (HBx.out.trans (hb9.mono HBx.out.size))
      clear hb9
      go_wp2_with fail
      go_ret
      exact ⟨rfl, HB9.out⟩
    · have e0 : (((m : Nat) : Int) == 0) = false := by simp; omega
      by_cases h3 : at' < 0
      · have l1 : decide (at' < 0) = true := decide_eq_true h3
        clear h2 hs hcp lo hi hm hn _ln
        have HBx : Hid (Below w.heap.size w w) := Below.refl _ _
        go_enter Try.func10, Try.ntmps10
        go_wp2_with fail
        refine (zlives_is w).mono ?_
        rintro e w9 ⟨rfl, hb9⟩
        have HB9 := Lib.hid (HBx.out.trans (hb9.mono HBx.out.size))
        clear hb9
        go_wp2_with fail
        go_ret
        exact ⟨rfl, HB9.out⟩
      · obtain ⟨K, rfl⟩ : ∃ K : Nat, at' = (K : Int) := ⟨at'.toNat, by omega⟩
        exact turned_main a n cap bs K m w hs (hcp _ _ _ rfl) h1 h2 hm hi
  · have l0 : decide ((2048 : Int) < (n : Int)) = true := decide_eq_true (by omega)
    clear hs hcp lo hi hm hn _ln
    have HBx : Hid (Below w.heap.size w w) := Below.refl _ _
    go_enter Try.func10, Try.ntmps10
    go_wp2_with fail
    refine (zlives_is w).mono ?_
    rintro e w9 ⟨rfl, hb9⟩
    have HB9 := Lib.hid (HBx.out.trans (hb9.mono HBx.out.size))
    clear hb9
    go_wp2_with fail
    go_ret
    exact ⟨rfl, HB9.out⟩
set_option maxRecDepth 100000 in
theorem slotsTurned_lifted (os : Os) (started : os.Started) (H : Type) (enc : TypeId × Value → H) :
    ReturnsInHanded {} Try.checked os 10 .any (Rows.slotsTurnedSpec.pre6 enc Try.prog Try.f10 Rows.slotsTurnedRow.domain false) (Rows.slotsTurnedSpec.post enc Try.prog Try.f10 false true false false) := by
  refine returnsInHanded_of_change_sized (C := Try.checked) Try.own started (by kernel_rfl) Try.func10
    (ChangeSpec.witness6 (enc := enc) (C := Try.checked) false ⟨#[], #[.slice none 0 0, .int .i64 0, .int .u8 0], []⟩ 8 (by kernel_rfl) (by kernel_rfl) (by kernel_rfl) (by kernel_rfl)) ?_
  intro W base args ds gs before hval0 hW _ hsz0 _
  have hval : ∀ (j : Nat) t v, Try.f10.params[j]? = some t → args[j]? = some v → Value.okWide Try.prog W .any base t v := hval0
  have hsz : (DataW.weightsEach Try.prog (Try.f10.params.toList ++ Rows.slotsTurnedSpec.plain.varTypes Try.prog) (ds ++ gs)).all (· ≤ reachBytes) = true := hsz0
  have hW' := hW
  obtain ⟨p, q, hA0, hV, rfl, hfz, hnd⟩ := hW
  have hA : DataW.TrodAll enc Try.prog W 0 (fun _ => true) true Try.f10.params.toList args.toList ds p := hA0
  rw [Try.params10] at hA hval hsz
  obtain ⟨v0, vs0, d0, ds0, p0, q0, hargs, rfl, rfl, h0, r0⟩ := trodAll_cons hA
  obtain ⟨v1, vs1, d1, ds1, p1, q1, rfl, rfl, rfl, h1, r1⟩ := trodAll_cons r0
  obtain ⟨v2, vs2, d2, ds2, p2, q2, rfl, rfl, rfl, h2, r2⟩ := trodAll_cons r1
  obtain ⟨rfl, rfl, rfl⟩ := trodAll_nil r2
  obtain rfl : args = #[v0, v1, v2] := by cases args; simp_all
  obtain ⟨rfl, rfl⟩ := trodVars_none hV
  have k0 := h0
  have lt0 : ∀ x ∈ p0, x.block < W.heap.size := by obtain ⟨m, hm⟩ := k0; exact DataW.trod_lt m _ _ _ hm
  have w0 : ∀ n ∈ d0.weights Try.prog 43, n ≤ reachBytes := fun n hn => by simpa using List.all_eq_true.1 hsz n (DataW.weights_mem_each (j := 0) rfl rfl n hn)
  obtain ⟨bs0, sl0, ln0⟩ := bytes_open (hval 0 43 v0 rfl rfl) h0 w0
  have cp0 := bytes_cap (hval 0 43 v0 rfl rfl) h0
  have k1 := h1
  have lt1 : ∀ x ∈ p1, x.block < W.heap.size := by obtain ⟨m, hm⟩ := k1; exact DataW.trod_lt m _ _ _ hm
  obtain ⟨n1, ev1, _, _, wn1⟩ := open_int Try.underlying3 (hval 1 3 v1 rfl rfl) h1
  subst ev1
  obtain ⟨lo1, hi1⟩ := wf_bounds wn1
  have k2 := h2
  have lt2 : ∀ x ∈ p2, x.block < W.heap.size := by obtain ⟨m, hm⟩ := k2; exact DataW.trod_lt m _ _ _ hm
  obtain ⟨n2, ev2, _, _, wn2⟩ := open_int Try.underlying5 (hval 2 5 v2 rfl rfl) h2
  subst ev2
  obtain ⟨m2, rfl, lm2⟩ := u8_nat wn2
  clear hA0 hval0 hsz0
  refine (slotsTurned_walk v0 bs0 n1 m2 W sl0 ln0 cp0 lo1 hi1 lm2).mono fun e W' ⟨he, bel⟩ => ?_
  subst he
  exact ⟨_, rfl, _, _, _, [], _, [], hW', trodAll_mk1 (shut_bool Try.underlying4 _), (trodAll_cons_mk (Below.trod Try.laidOut (by kernel_rfl) (of_decide_eq_true (by kernel_rfl)) k0 bel lt0) (trodAll_cons_mk (Below.trod Try.laidOut (by kernel_rfl) (of_decide_eq_true (by kernel_rfl)) k1 bel lt1) (trodAll_cons_mk (Below.trod Try.laidOut (by kernel_rfl) (of_decide_eq_true (by kernel_rfl)) k2 bel lt2) trodAll_mk0))), rfl, bel.frame _, fun h => by cases h⟩

theorem slotsTurned_proved : Rows.SlotsTurnedSaid :=
  OpenClaim.holds_of_wide 10 Try.f10 rfl rfl rfl rfl rfl rfl rfl ⟨rfl, rfl, rfl, rfl, rfl⟩ rfl rfl rfl rfl rfl (by kernel_rfl) Try.func10 (by kernel_rfl)
    (of_decide_eq_true (by kernel_rfl)) (by unfold Func.isWrapper; rw [if_neg (of_decide_eq_false (by kernel_rfl))]; exact ⟨rfl, rfl⟩)
    (fun os started H enc _ => slotsTurned_lifted os started H enc)
end Go.Proofs.Ytfihljibfnnahaa
