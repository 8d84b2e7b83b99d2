/- Contract of Table.Read, at a table. -/
import Derived.Test.YtnjlljdbghcobaaGreatDoorHrd
import Derived.Test.YtnjlljdbghcobaaGreatDoorHref
import Derived.Test.YtnjlljdbghcobaaGreatDoorAppm

namespace Go.Proofs.YtnjlljdbghcobaaGreatDoor
set_option maxRecDepth 100000
open Go.RowKit

/-- What lies in memory for a table: the block of the struct, the block of the symbols. -/
structure Tb (w : World) (T g capg : Nat) (ls : List Nat) : Prop where
  counts : Rw w T 16 (cnt (usedTo ls ls.length))
  slice : w.cell? ⟨T, 16, none⟩ = some (.slice (some ⟨g, 0, none⟩) (Hf.ordl ls).length capg)
  cap : (Hf.ordl ls).length ≤ capg
  syms : Rw w g (Hf.ordl ls).length (fun i => (Hf.ordl ls)[i]?.getD 0)

theorem rw_below {B : Nat} {w w' : World} {g n : Nat} {d : Nat → Nat} (h : Rw w g n d) (hg : g < B) (hb : Below B w w') : Rw w' g n d := h.same (hb.block g hg) (Nat.lt_of_lt_of_le h.lt hb.size)
theorem Tb.below {w w' : World} {T g capg : Nat} {ls : List Nat} (h : Tb w T g capg ls) (hb : Below w.heap.size w w') : Tb w' T g capg ls :=
  ⟨rw_below h.counts h.counts.lt hb, by rw [hb.cell (p := ⟨T, 16, none⟩) h.counts.lt]; exact h.slice, h.cap, rw_below h.syms h.syms.lt hb⟩
theorem tb_of {lo : Nat} {w : World} {T : Nat} {ls : List Nat} (h : Tab lo w T ls) (hg : Good ls) : ∃ g capg, lo ≤ g ∧ Tb w T g capg ls := by
  obtain ⟨sv, h1, h2⟩ := h.syms
  rcases h2 with ⟨_, h0⟩ | ⟨g, capg, rfl, h3, h4, h5⟩
  · have := hg.1; rw [h0] at this; simp at this
  · exact ⟨g, capg, h4, h.counts, h1, h3, h5⟩

set_option maxHeartbeats 2000000 in
theorem read_bad (T g capg : Nat) (ls : List Nat) (hg : Good ls) (s : Value) (bs : List Nat) (N at' : Int) (w : World) (hT : Tb w T g capg ls) (hs : Sl w s bs) (hN : N ≤ 9223372036854775807) (hbad : ¬ (0 ≤ N ∧ Bs.right bs N.toNat) ∨ at' < 0 ∨ N < at') :
    Calls Tryz.prog 212 #[.pointer (some ⟨T, 0, none⟩), .agg #[s, .int .i64 N], .int .i64 at'] w fun e w' => e = .returned (.tuple #[.int .i64 0, .int .i64 0, .int .i64 2]) ∧ Below w.heap.size w w' := by
  obtain ⟨M, hM⟩ : ∃ M, M = (Hf.ordl ls).length := ⟨_, rfl⟩
  have hM0 : 0 < M := by rw [hM]; exact hg.1
  have hM2 : M ≤ 288 := by rw [hM]; exact hg.2.1
  have HGET : Hid (∀ w', Below w.heap.size w w' → Calls Tryz.prog 116 #[.agg #[s, .int .i64 N], .int .i64 at', .int .i64 1] w' (Nums w' 0 2)) := by
    intro w' hb
    by_cases h1 : 0 ≤ N ∧ Bs.right bs N.toNat
    · have h2 := hbad.resolve_left (fun h => h h1)
      obtain ⟨n, rfl⟩ := Int.eq_ofNat_of_zero_le h1.1
      exact get_args s bs n at' 1 w' (hs.later hb) (by omega) h1.2 (by rcases h2 with h | h; exact Or.inr (Or.inr (Or.inl h)); exact Or.inr (Or.inr (Or.inr h)))
    · exact get_check s bs N at' 1 w' (hs.later hb) hN h1
  obtain ⟨a, len, cap, rfl, hl⟩ := hs.shape
  obtain ⟨w0, hw0⟩ : ∃ w0, w0 = w.alloc (.cells #[.slice a len cap, .int .i64 N] 36) := ⟨_, rfl⟩
  have hb0 : Below w.heap.size w w0 := by rw [hw0]; exact below1 _ _
  have hx0 : Has w0 w.heap.size (.cells #[.slice a len cap, .int .i64 N] 36 (0, 0)) := by rw [hw0]; exact Has.new _ _
  have hT0 := hT.below hb0
  have c16 := hT0.slice
  have c1 := hT0.counts.cell 1 (by omega)
  rw [← hM] at c16
  obtain ⟨n1, hn1⟩ : ∃ n1, n1 = cnt (usedTo ls ls.length) 1 := ⟨_, rfl⟩
  rw [← hn1] at c1
  have e0 : ((M : Int) == 0) = false := by rw [beq_eq_false_iff_ne]; omega
  obtain ⟨b0, b1, _, _⟩ := hx0.two
  have HB0 := Lib.hid hb0
  clear hT hs hbad hl hM hg hT0 hn1 hb0 hx0
  subst hw0
  go_enter Tryz.func212, Tryz.ntmps212
  go_wp2_with fail
  go_quiet (fail)
  go_wp2_with fail
  refine wp_loop_rounds 1 ?_
  rw [rounds_succ]
  go_wp2_with fail
  refine (HGET.out _ (below_drewN HB0.out _)).mono ?_
  rintro e w2 ⟨rfl, hb2⟩
  have HB2 : Hid (Below w.heap.size w w2) := (below_drewN HB0.out nq).trans (hb2.mono HB0.out.size)
  clear hb2
  go_wp2
  go_ret3
  exact ⟨rfl, HB2.out⟩

theorem rd_small {ls : List Nat} {l : List Bool} {p j c : Nat} (hj : j < 15) (h : Hf.Cnt ls l p j c) : c < 32768 := by
  unfold Hf.Cnt at h
  have h1 := Hf.vb_lt l p j
  have h2 : 2 ^ j ≤ 2 ^ 15 := Nat.pow_le_pow_right (by omega) (by omega)
  have h3 : c * 2 ^ (15 - j) ≤ Hf.vb l p j * 2 ^ (15 - j) := by rw [← h]; exact Nat.le_add_right _ _
  have h4 := Nat.le_of_mul_le_mul_right h3 (Nat.two_pow_pos _)
  omega

set_option maxRecDepth 100000 in
set_option maxHeartbeats 4000000 in
theorem read_ok (T g capg : Nat) (ls : List Nat) (hg : Good ls) (s : Value) (l : List Bool) (N p : Nat) (w : World) (hT : Tb w T g capg ls) (hs : Sl w s (Bs.pack l)) (hl : Hid (N = l.length)) (hN : N ≤ 2251799813685248) (hp : p ≤ N) :
    Calls Tryz.prog 212 #[.pointer (some ⟨T, 0, none⟩), .agg #[s, .int .i64 (N : Int)], .int .i64 (p : Int)] w (RdPost w ls l p) := by
  obtain ⟨M, hM⟩ : ∃ M, M = (Hf.ordl ls).length := ⟨_, rfl⟩
  have hM0 : 0 < M := by rw [hM]; exact hg.1
  have hM2 : M ≤ 288 := by rw [hM]; exact hg.2.1
  have HG := Lib.hid hg
  have HS := Lib.hid hs
  have HT := Lib.hid hT
  have HM := Lib.hid (fun _ : Unit => hM)
  obtain ⟨a, len, cap, rfl, hl'⟩ := hs.shape
  obtain ⟨w0, hw0⟩ : ∃ w0, w0 = w.alloc (.cells #[.slice a len cap, .int .i64 (N : Int)] 36) := ⟨_, rfl⟩
  have hb0 : Below w.heap.size w w0 := by rw [hw0]; exact below1 _ _
  have hx0 : Has w0 w.heap.size (.cells #[.slice a len cap, .int .i64 (N : Int)] 36 (0, 0)) := by rw [hw0]; exact Has.new _ _
  have c16 := (hT.below hb0).slice
  rw [← hM] at c16
  have e0 : ((M : Int) == 0) = false := by rw [beq_eq_false_iff_ne]; omega
  have HB0 := Lib.hid hb0
  have HX0 := Lib.hid hx0
  have HCG : Hid (M ≤ capg) := by show _ ≤ _; rw [hM]; exact hT.cap
  have HW0 := Lib.hid hw0
  clear hT hs hl' hM hg hb0 hx0
  subst hw0
  go_enter Tryz.func212, Tryz.ntmps212
  go_wp2_with fail
  go_quiet (fail)
  go_wp2_with fail
  obtain ⟨w1, hw1⟩ : ∃ w1, w1 = (w.alloc (.cells #[.slice a len cap, .int .i64 (N : Int)] 36)).drewN nq := ⟨_, rfl⟩
  have HB1 : Hid (Below w.heap.size w w1) := by rw [hw1]; exact below_drewN HB0.out nq
  have HX1 : Hid (Has w1 w.heap.size (.cells #[.slice a len cap, .int .i64 (N : Int)] 36 (0, 0))) := by rw [hw1]; exact HX0.out
  rw [← hw1]
  clear hw1 c16 HB0 HX0 HW0
  go_loopw [2, 9, 10, 12, 13, 14, 34] (fun s2 s9 s10 _ _ _ s34 wr => ∃ j c m : Nat, j ≤ 15 ∧ s34 = .int .i64 j ∧ s2 = .int .i64 ((p : Int) + (j : Int)) ∧ s9 = .int .i64 c ∧ s10 = .slice (some ⟨g, m, none⟩) (M - m) (capg - m) ∧ m < M ∧ p + j ≤ N ∧ Hid (Unit → m = Hf.mm ls j) ∧ Hid (Unit → Hf.Cnt ls l p j c) ∧
    Hid (∀ r, Hf.Rd ls l p j r → Hf.Rd ls l p 0 r) ∧ Hid (Has wr w.heap.size (.cells #[.slice a len cap, .int .i64 (N : Int)] 36 (0, 0))) ∧ Hid (Below w.heap.size w wr)) (fun _ _ _ _ _ _ s _ => 15 - (intOf s).toNat)
  case atStart => exact ⟨0, 0, 0, by omega, rfl, by go_num, rfl, rfl, by omega, by omega, (fun _ => rfl : Unit → 0 = Hf.mm ls 0), (fun _ => Hf.Cnt.start ls l p : Unit → Hf.Cnt ls l p 0 0), fun r h => h, HX1, HB1⟩
  case round =>
    clear HX1 HB1
    obtain ⟨j, c, m, hj, rfl, rfl, rfl, rfl, hm, hpj, KM, KC, KR, KX, KB⟩ := hrel
    obtain ⟨b0, b1, _, _⟩ := KX.out.two
    by_cases hj15 : j < 15
    · have HT1 := HT.out.below KB.out
      obtain ⟨n, hn⟩ : ∃ n, n = cnt (usedTo ls ls.length) (1 + j) := ⟨_, rfl⟩
      have cn := HT1.counts.cell (1 + j) (by omega)
      rw [← hn] at cn
      have hmm : Hid (Unit → Hf.mm ls (j + 1) = m + n) := by
        show Unit → _ = _
        intro _
        rw [Hf.mm_succ, ← KM.out (), hn, cnt_row _ _ _ (by omega), show 1 + j = j + 1 by omega]
      have hnM : m + n ≤ M := by
        have := Hf.mm_le ls (j + 1) (by omega)
        rw [hmm.out (), ← HM.out ()] at this; exact this
      have hMc : M ≤ capg := HCG.out
      have hnc : m + n ≤ capg := by omega
      by_cases hend : p + j = N
      · have HGT : Hid (∀ w', Below w.heap.size w w' → Calls Tryz.prog 116 #[.agg #[.slice a len cap, .int .i64 (N : Int)], .int .i64 ((p : Int) + (j : Int)), .int .i64 1] w' (Nums w' 0 4)) := fun w' hb => by
          rw [← Int.natCast_add]
          exact get_short _ (Bs.pack l) N (p + j) 1 w' (HS.out.later hb) (by omega) (by rw [hl.out]; exact Bs.pack_right l) (by omega) hpj (by omega)
        have RS := Lib.hid (fun _ : Unit => KR.out _ (.short j hj15 (by rw [← hl.out]; exact hend)))
        clear hn HT1 hend
        go_wp2_with fail
        refine (HGT.out _ KB.out).mono ?_
        rintro e w2 ⟨rfl, hb2⟩
        have HB2 : Hid (Below w.heap.size w w2) := KB.out.trans (hb2.mono KB.out.size)
        clear hb2
        go_wp2
        go_ret3
        exact ⟨(0, 0, 4), rfl, RS.out (), HB2.out⟩
      · have hlt : p + j < l.length := by rw [← hl.out]; omega
        obtain ⟨bt, hbt⟩ : ∃ bt, bt = (l[p + j]?.getD false).toNat := ⟨_, rfl⟩
        have hbt2 : bt < 2 := by rw [hbt]; exact Bool.toNat_lt _
        have HGT : Hid (∀ w', Below w.heap.size w w' → Calls Tryz.prog 116 #[.agg #[.slice a len cap, .int .i64 (N : Int)], .int .i64 ((p : Int) + (j : Int)), .int .i64 1] w' (Nums w' (bt : Int) 0)) := fun w' hb => by
          rw [← Int.natCast_add, hbt, ← num_one l (p + j) hlt]
          exact get_ok _ l N (p + j) 1 w' (HS.out.later hb) hl hN (by omega) (by omega)
        have hcb := (KC.out ()).bit hj15
        rw [← hbt, ← KM.out ()] at hcb
        have hcs : c < 32768 := rd_small hj15 (KC.out ())
        have hor := or_bit c bt hcs hbt2
        obtain ⟨d, hd⟩ : ∃ d, d = 2 * c + bt := ⟨_, rfl⟩
        rw [← hd] at hcb hor
        have hd2 : d < 65536 := by omega
        have HL := Lib.hid (fun _ : Unit => hlt)
        have HCB := Lib.hid (fun _ : Unit => hcb)
        clear hn hbt hcb hd hlt
        by_cases hhit : d < n
        · have hk : m + d < M := by omega
          obtain ⟨x, hx⟩ : ∃ x, x = Hf.sy ls (m + d) := ⟨_, rfl⟩
          have HHIT : Hid (Unit → Hf.Rd ls l p 0 (x, p + j + 1, 0)) := by
            show Unit → _
            intro _
            rw [hx]
            refine KR.out _ (.hit j (m + d) hj15 (HL.out ()) ?_)
            have h1 := HCB.out ()
            rw [KM.out ()] at h1 ⊢
            exact Hf.Cnt.hit h1 hj15 (by rw [hmm.out (), ← KM.out ()]; omega)
          have cs := HT1.syms.cell (m + d) (by rw [← HM.out ()]; exact hk)
          rw [show (Hf.ordl ls)[m + d]?.getD 0 = x from hx.symm] at cs
          have hgl := HT1.syms.lt
          have HCS := Lib.hid cs
          clear hx HT1 cs
          go_wp2_with fail
          refine (HGT.out _ KB.out).mono ?_
          rintro e w2 ⟨rfl, hb2⟩
          have cs2 : w2.cell? ⟨g, m + d, none⟩ = some (.int .i64 (x : Int)) := by rw [hb2.cell (p := ⟨g, m + d, none⟩) hgl]; exact HCS.out
          have HB2 : Hid (Below w.heap.size w w2) := KB.out.trans (hb2.mono KB.out.size)
          clear hb2
          go_wp2
          go_ret3
          exact ⟨(x, p + j + 1, 0), by simp, HHIT.out (), HB2.out⟩
        · have HNO : Hid (∀ k, ¬ Hf.Hit ls l p (j + 1) k) := by
            have h1 := HCB.out ()
            rw [KM.out ()] at h1
            exact fun k => Hf.Cnt.nohit h1 hj15 (by rw [hmm.out (), ← KM.out ()]; omega) k
          have HNX : Hid (Unit → Hf.Cnt ls l p (j + 1) (d - n)) := by
            show Unit → _
            intro _
            have h1 := HCB.out ()
            rw [KM.out ()] at h1
            exact Hf.Cnt.next h1 hj15 n (by rw [hmm.out (), ← KM.out ()]) (by omega)
          by_cases hlast : m + n = M
          · have HMS : Hid (Unit → Hf.Rd ls l p 0 (0, 0, 13)) := fun _ => KR.out _ (.miss j hj15 (HL.out ()) HNO.out (Hf.nobeg hj15 HNO.out (by rw [hmm.out (), ← HM.out ()]; exact hlast)))
            have e1 : M - m - n = 0 := by omega
            clear HT1
            have e2 : ((M - m - n : Nat) : Int) = 0 := by omega
            by_cases hcap : capg - m = n
            all_goals
              go_wp2_with fail
              refine (HGT.out _ KB.out).mono ?_
              rintro e w2 ⟨rfl, hb2⟩
              have HB2 : Hid (Below w.heap.size w w2) := KB.out.trans (hb2.mono KB.out.size)
              clear hb2
              go_wp2
              go_quiet (fail)
              go_wp2
              go_ret3
              exact ⟨(0, 0, 13), rfl, HMS.out (), below_drewN HB2.out _⟩
          · obtain ⟨k, hk⟩ := good_beg HG.out hj15 (HNX.out ()) (by rw [hmm.out (), ← HM.out ()]; omega)
            have HRN : Hid (∀ r, Hf.Rd ls l p (j + 1) r → Hf.Rd ls l p 0 r) := fun r h => KR.out _ (.next j k r hj15 (HL.out ()) HNO.out hk h)
            have hne1 : ¬ capg - m = n := by omega
            have hne2 : ¬ n = capg - m := by omega
            have e1 : ((M - m - n : Nat) : Int) ≠ 0 := by omega
            clear HT1 hk
            go_wp2_with fail
            refine (HGT.out _ KB.out).mono ?_
            rintro e w2 ⟨rfl, hb2⟩
            have HB2 : Hid (Below w.heap.size w w2) := KB.out.trans (hb2.mono KB.out.size)
            have KX2 : Hid (Has w2 w.heap.size (.cells #[.slice a len cap, .int .i64 (N : Int)] 36 (0, 0))) := KX.out.later hb2
            clear hb2
            go_wp2
            go_quiet (fail)
            go_wp2
            exact ⟨⟨j + 1, d - n, m + n, by omega, by go_num, by go_num, by go_num, by rw [Nat.sub_sub, Nat.sub_sub], by omega, by omega, (fun _ => (hmm.out ()).symm : Unit → _), (fun _ => HNX.out () : Unit → _), HRN, KX2, below_drewN HB2.out _⟩, by simp [intOf]; omega⟩
    · obtain rfl : j = 15 := by omega
      go_wp2
      go_ret3
      exact ⟨(0, 0, 13), rfl, KR.out _ .last, KB.out⟩
end Go.Proofs.YtnjlljdbghcobaaGreatDoor

/- Contracts of header's reader: symbol. -/
namespace Go.Proofs.YtnjlljdbghcobaaGreatDoor
set_option maxRecDepth 100000
open Go.RowKit

theorem read_rd (T g capg : Nat) (ls : List Nat) (hg : Good ls) (s : Value) (l : List Bool) (N p : Nat) (w : World) (hT : Tb w T g capg ls) (hs : Sl w s (Bs.pack l)) (hl : Hid (N = l.length)) (hN : N ≤ 2251799813685248) (hp : p ≤ N) (y q : Nat) (c : Int) (hr : Hid (Hd.rd ls l p = (y, q, c))) :
    Calls Tryz.prog 212 #[.pointer (some ⟨T, 0, none⟩), .agg #[s, .int .i64 (N : Int)], .int .i64 (p : Int)] w fun e w' => e = .returned (.tuple #[.int .i64 (y : Int), .int .i64 (q : Int), .int .i64 c]) ∧ Below w.heap.size w w' := by
  refine (read_ok T g capg ls hg s l N p w hT hs hl hN hp).mono ?_
  rintro e w' ⟨r, rfl, hrd, hb⟩
  have h := Hd.rd_is hrd
  rw [hr.out] at h
  subst h
  exact ⟨rfl, hb⟩

theorem Tb.ne {w : World} {T g capg : Nat} {ls : List Nat} (h : Tb w T g capg ls) (hg : Good ls) {R : Nat} {s : Value} {N p : Nat} (hx : Has w R (rdr s N p)) (hs : ∃ a len cap, s = .slice a len cap) : T ≠ R ∧ g ≠ R := by
  obtain ⟨c0, _⟩ := rdr_cells hx
  obtain ⟨a, len, cap, rfl⟩ := hs
  constructor
  · rintro rfl
    have := h.counts.cell 0 (by omega)
    rw [c0] at this; simp at this
  · rintro rfl
    have := h.syms.cell 0 hg.1
    rw [c0] at this; simp at this
theorem Tb.rdr {w w' : World} {T g capg : Nat} {ls : List Nat} (h : Tb w T g capg ls) (hg : Good ls) {R : Nat} {s : Value} {N p : Nat} (hx : Has w R (rdr s N p)) (hs : ∃ a len cap, s = .slice a len cap) (ho : Only R w w') : Tb w' T g capg ls := by
  obtain ⟨n1, n2⟩ := h.ne hg hx hs
  refine ⟨h.counts.same (ho.block T h.counts.lt n1) (Nat.lt_of_lt_of_le h.counts.lt ho.size), ?_, h.cap, h.syms.same (ho.block g h.syms.lt n2) (Nat.lt_of_lt_of_le h.syms.lt ho.size)⟩
  rw [cell_of_heap (ho.block T h.counts.lt n1)]; exact h.slice

/-- What reading a symbol leaves. -/
def SymPost (R : Nat) (w : World) (s : Value) (N y q : Nat) (c : Int) (e : Ending) (w' : World) : Prop :=
  Only R w w' ∧ (c = 0 → e = .returned (.int .i64 (y : Int)) ∧ Has w' R (rdr s N q)) ∧ (c ≠ 0 → e = .panicked (Pan c))
theorem SymPost.ok {R : Nat} {w w' : World} {s : Value} {N y q : Nat} {e : Ending} (h : SymPost R w s N y q 0 e w') : e = .returned (.int .i64 (y : Int)) ∧ Has w' R (rdr s N q) ∧ Only R w w' := ⟨(h.2.1 rfl).1, (h.2.1 rfl).2, h.1⟩
theorem SymPost.bad {R : Nat} {w w' : World} {s : Value} {N y q : Nat} {c : Int} {e : Ending} (h : SymPost R w s N y q c e w') (hc : c ≠ 0) : e = .panicked (Pan c) ∧ Only R w w' := ⟨h.2.2 hc, h.1⟩

set_option maxRecDepth 100000 in
set_option maxHeartbeats 4000000 in
theorem symbol_any (R T g capg : Nat) (ls : List Nat) (hg : Good ls) (s : Value) (l : List Bool) (N p : Nat) (w : World) (hx : Has w R (rdr s N p)) (hT : Tb w T g capg ls) (hs : Sl w s (Bs.pack l)) (hl : Hid (N = l.length)) (hN : N ≤ 2251799813685248) (hp : p ≤ N)
    (y q : Nat) (c : Int) (hr : Hid (Hd.rd ls l p = (y, q, c))) :
    Calls Tryz.prog 232 #[.pointer (some ⟨R, 0, none⟩), .pointer (some ⟨T, 0, none⟩)] w (SymPost R w s N y q c) := by
  obtain ⟨c0, c1, c2, z2⟩ := rdr_cells hx
  have HX := Lib.hid hx
  have B0 := Lib.hid (Below.refl w.heap.size w)
  have HG := Lib.hid (fun w' (hb : Below w.heap.size w w') => read_rd T g capg ls hg s l N p w' (hT.below hb) (hs.later hb) hl hN hp y q c hr)
  clear hx hs hT hg
  by_cases hc : c = 0
  · subst hc
    go_enter Tryz.func232, Tryz.ntmps232
    go_wp2
    go_region_held3 (fun wx => wx.cell? ⟨R, 0, none⟩ = some s ∧ wx.cell? ⟨R, 1, none⟩ = some (.int .i64 (N : Int)) ∧ wx.cell? ⟨R, 2, none⟩ = some (.int .i64 (p : Int)) ∧ Below w.heap.size w wx) (first | exact ⟨c0, c1, c2, B0.out.drew⟩ | exact keep_rdr HX.out B0.out.drew hb1)
      (first | (go_at_call 212; refine (HG.out _ B0.out.drew).mono ?_; rintro e w1 ⟨rfl, hb1⟩))
    all_goals
      have hb : Below w.heap.size w w1 := B0.out.drew.trans (hb1.mono (by simp))
      have hx1 := HX.out.later hb
      obtain ⟨d0, d1, d2, y2⟩ := rdr_cells hx1
      have HX1 := Lib.hid hx1
      have HB := Lib.hid hb
      clear hb1 hb hx1 c0 c1 c2 z2
      go_wp2_with fail
      refine (needInt_ok _ _).mono ?_
      rintro e w2 ⟨rfl, rfl⟩
      go_wp2
      go_ret
      exact ⟨(Only.of_below HB.out).trans (only_set _ R 2 _), fun _ => ⟨rfl, rdr_set HX1.out q⟩, fun h => absurd rfl h⟩
  · go_enter Tryz.func232, Tryz.ntmps232
    go_wp2
    go_region_held3 (fun wx => wx.cell? ⟨R, 0, none⟩ = some s ∧ wx.cell? ⟨R, 1, none⟩ = some (.int .i64 (N : Int)) ∧ wx.cell? ⟨R, 2, none⟩ = some (.int .i64 (p : Int)) ∧ Below w.heap.size w wx) (first | exact ⟨c0, c1, c2, B0.out.drew⟩ | exact keep_rdr HX.out B0.out.drew hb1)
      (first | (go_at_call 212; refine (HG.out _ B0.out.drew).mono ?_; rintro e w1 ⟨rfl, hb1⟩))
    all_goals
      have hb : Below w.heap.size w w1 := B0.out.drew.trans (hb1.mono (by simp))
      have HB := Lib.hid hb
      clear hb1 hb c0 c1 c2 z2
      go_wp2_with fail
      refine (needInt_bad _ c hc _).mono ?_
      rintro e w2 ⟨rfl, rfl⟩
      exact ⟨rfl, Only.of_below HB.out, fun h => absurd h hc, fun _ => rfl⟩
end Go.Proofs.YtnjlljdbghcobaaGreatDoor

/- The reader of streams in memory: what it holds, what of all else stays. -/
namespace Go.Proofs.YtnjlljdbghcobaaGreatDoor
set_option maxRecDepth 100000
open Go.RowKit

/-- A panic with a fault. -/
def Pai (c : Int) : List PanicEntry := [{ v := .iface 109 (.agg #[.int .i64 c]), recovered := false }]

/-- The cells of tokens. -/
def tc (ts : List If.Tk) : List Value := ts.flatMap fun t => [.int .i64 (t.len : Int), .int .i64 (t.far : Int), .int .u8 (t.lit : Int)]
theorem tc_length (ts : List If.Tk) : (tc ts).length = ts.length * 3 := by
  induction ts with
  | nil => rfl
  | cons t ts ih => simp only [tc, List.flatMap_cons, List.length_append, List.length_cons, List.length_nil] at ih ⊢; omega
theorem tc_snoc (ts : List If.Tk) (t : If.Tk) : tc (ts ++ [t]) = tc ts ++ [.int .i64 (t.len : Int), .int .i64 (t.far : Int), .int .u8 (t.lit : Int)] := by simp [tc]
theorem tc_get : ∀ (ts : List If.Tk) (i : Nat) (t : If.Tk), ts[i]? = some t → (tc ts)[3 * i]? = some (.int .i64 (t.len : Int)) ∧ (tc ts)[3 * i + 1]? = some (.int .i64 (t.far : Int)) ∧ (tc ts)[3 * i + 2]? = some (.int .u8 (t.lit : Int))
  | [], i, t, h => by simp at h
  | u :: ts, 0, t, h => by simp at h; subst h; simp [tc]
  | u :: ts, i + 1, t, h => by
    have := tc_get ts i t (by simpa using h)
    simp only [tc, List.flatMap_cons] at this ⊢
    rw [show 3 * (i + 1) = [Value.int .i64 (u.len : Int), .int .i64 (u.far : Int), .int .u8 (u.lit : Int)].length + 3 * i by simp; omega]
    simp only [Nat.add_assoc]
    rw [List.getElem?_append_right (Nat.le_add_right _ _), List.getElem?_append_right (Nat.le_add_right _ _), List.getElem?_append_right (Nat.le_add_right _ _)]
    simp only [Nat.add_sub_cancel_left]
    exact this
theorem tc_one (ts : List If.Tk) : ∀ v ∈ tc ts, v.oneCell' = true := by
  intro v hv
  simp only [tc, List.mem_flatMap] at hv
  obtain ⟨t, _, hv⟩ := hv
  simp at hv
  rcases hv with rfl | rfl | rfl <;> rfl

/-- What a reader has that turns: the place, the tokens, both tables of fixed blocks. -/
structure Rv where
  p : Nat
  ts : List If.Tk
  lv : Value
  dv : Value

def rdi (s : Value) (N : Nat) (most : Nat) (tv : Value) (r : Rv) : Obj :=
  .cells #[s, .int .i64 (N : Int), .int .i64 (r.p : Int), tv, .int .i64 ((If.tell r.ts).length : Int), .int .i64 (most : Int), r.lv, r.dv] 64 (0, 0)

/-- The kept blocks are as they were. -/
structure Fr (K : Nat → Prop) (w w' : World) : Prop where
  os : w'.os = w.os
  tape : w'.tape = w.tape
  output : w'.output = w.output
  size : w.heap.size ≤ w'.heap.size
  block : ∀ k, K k → w'.heap[k]? = w.heap[k]?
theorem Fr.refl (K : Nat → Prop) (w : World) : Fr K w w := ⟨rfl, rfl, rfl, Nat.le_refl _, fun _ _ => rfl⟩
theorem Fr.trans {K : Nat → Prop} {a b c : World} (h : Fr K a b) (k : Fr K b c) : Fr K a c :=
  ⟨k.os.trans h.os, k.tape.trans h.tape, k.output.trans h.output, Nat.le_trans h.size k.size, fun i hi => (k.block i hi).trans (h.block i hi)⟩
theorem Fr.of_below {K : Nat → Prop} {w w' : World} (hK : ∀ k, K k → k < w.heap.size) (h : Below w.heap.size w w') : Fr K w w' :=
  ⟨h.os, h.tape, h.output, h.size, fun k hk => h.block k (hK k hk)⟩
theorem Fr.of_only {K : Nat → Prop} {R : Nat} {w w' : World} (hK : ∀ k, K k → k < w.heap.size) (hR : ¬ K R) (h : Only R w w') : Fr K w w' :=
  ⟨h.os, h.tape, h.output, h.size, fun k hk => h.block k (hK k hk) (fun e => hR (e ▸ hk))⟩
theorem Fr.mono {K K' : Nat → Prop} {w w' : World} (h : Fr K' w w') (hK : ∀ k, K k → K' k) : Fr K w w' := ⟨h.os, h.tape, h.output, h.size, fun k hk => h.block k (hK k hk)⟩
theorem Fr.below {K : Nat → Prop} {B : Nat} {w w' : World} (h : Fr K w w') (hB : ∀ k, k < B → K k) : Below B w w' := ⟨h.os, h.tape, h.output, h.size, fun k hk => h.block k (hB k hk)⟩

/-- The reader lies at R, over the row l, with what r says; what K names is not its own. -/
structure St (K : Nat → Prop) (R : Nat) (s : Value) (l : List Bool) (N most : Nat) (w : World) (r : Rv) : Prop where
  lt : ∀ k, K k → k < w.heap.size
  ne : ¬ K R
  sl : Sl w s (Bs.pack l)
  slK : ∀ a len cap b off, s = .slice a len cap → 0 < len → a = some ⟨b, off, none⟩ → K b
  gl : Glob w
  glK : K 1
  pn : r.p ≤ N
  toks : If.Toks r.ts
  le : (If.tell r.ts).length ≤ most
  has : ∃ tv, Has w R (rdi s N most tv r) ∧ w.ownsRow 0 59 3 tv r.ts.length (tc r.ts) ∧ (∀ g, tv.ownBlock = some g → ¬ K g)

theorem sl_keep {K : Nat → Prop} {w w' : World} {s : Value} {bs : List Nat} (h : Sl w s bs) (hK : ∀ a len cap b off, s = .slice a len cap → 0 < len → a = some ⟨b, off, none⟩ → K b) (hf : Fr K w w') : Sl w' s bs := by
  obtain ⟨a, len, cap, rfl, h1, h2, h3, h4, h5⟩ := h
  refine ⟨a, len, cap, rfl, h1, h2, h3, h4, fun hl => ?_⟩
  obtain ⟨b, off, rfl, hlt, hc⟩ := h5 hl
  refine ⟨b, off, rfl, Nat.lt_of_lt_of_le hlt hf.size, fun i hi => ?_⟩
  rw [cell_of_heap (hf.block b (hK _ _ _ _ _ rfl hl rfl))]
  exact hc i hi
theorem glob_keep {K : Nat → Prop} {w w' : World} (h : Glob w) (hK : K 1) (hf : Fr K w w') : Glob w' := fun k hk => by
  rw [cell_of_heap (hf.block _ hK)]; exact h k hk

/-- Memory of its own more: the reader is as it was. -/
theorem St.later {K : Nat → Prop} {R : Nat} {s : Value} {l : List Bool} {N most : Nat} {w w' : World} {r : Rv} (h : St K R s l N most w r) (hb : Below w.heap.size w w') : St K R s l N most w' r := by
  have hf := Fr.of_below h.lt hb
  obtain ⟨tv, h1, h2, h3⟩ := h.has
  exact ⟨fun k hk => Nat.lt_of_lt_of_le (h.lt k hk) hb.size, h.ne, h.sl.later hb, h.slK, h.gl.later hb, h.glK, h.pn, h.toks, h.le, tv, h1.later hb, own_keep h2 hb, h3⟩

theorem rdi_cells {w : World} {R : Nat} {s tv : Value} {N most : Nat} {r : Rv} (h : Has w R (rdi s N most tv r)) :
    w.cell? ⟨R, 0, none⟩ = some s ∧ w.cell? ⟨R, 1, none⟩ = some (.int .i64 (N : Int)) ∧ w.cell? ⟨R, 2, none⟩ = some (.int .i64 (r.p : Int)) ∧ w.cell? ⟨R, 3, none⟩ = some tv ∧
    w.cell? ⟨R, 4, none⟩ = some (.int .i64 ((If.tell r.ts).length : Int)) ∧ w.cell? ⟨R, 5, none⟩ = some (.int .i64 (most : Int)) ∧ w.cell? ⟨R, 6, none⟩ = some r.lv ∧ w.cell? ⟨R, 7, none⟩ = some r.dv := by
  unfold rdi at h
  exact ⟨by rw [h.cell]; rfl, by rw [h.cell]; rfl, by rw [h.cell]; rfl, by rw [h.cell]; rfl, by rw [h.cell]; rfl, by rw [h.cell]; rfl, by rw [h.cell]; rfl, by rw [h.cell]; rfl⟩
theorem rdi_free {w : World} {R : Nat} {s tv : Value} {N most : Nat} {r : Rv} (h : Has w R (rdi s N most tv r)) (i : Nat) : w.frozen? ⟨R, i, none⟩ = false := by unfold rdi at h; exact h.free i

/-- The tokens' block is not the reader's. -/
theorem tok_ne {w : World} {R : Nat} {s tv : Value} {N most : Nat} {r : Rv} {n : Nat} {xs : List Value} (h : Has w R (rdi s N most tv r)) (ho : w.ownsRow 0 59 3 tv n xs) : ∀ g, tv.ownBlock = some g → g ≠ R := by
  intro g hg
  rcases ho.2 with ⟨rfl, _⟩ | ⟨g', cap, cur, rfl, _, hh, _⟩
  · simp [Value.ownBlock] at hg
  · simp [Value.ownBlock] at hg
    subst hg
    rintro rfl
    unfold rdi at h
    have e : some (Obj.cells cur 59 (0, 0)) = some _ := Eq.trans (Eq.symm hh) h
    simp only [Option.some.injEq, Obj.cells.injEq] at e
    exact absurd e.2.1 (by decide)
theorem own_setR {w : World} {R i : Nat} {x : Value} {tv : Value} {n : Nat} {xs : List Value} (ho : w.ownsRow 0 59 3 tv n xs) (hne : ∀ g, tv.ownBlock = some g → g ≠ R) : (w.setCell ⟨R, i, none⟩ x).ownsRow 0 59 3 tv n xs := by
  refine ho.kept (row := some R) ⟨rfl, rfl, rfl, by simp, fun k hk hr => ?_⟩ ?_
  · exact Below.heap_setCell w ⟨R, i, none⟩ x k (by simpa using hr)
  · cases hv : tv.ownBlock with
    | none => exact Or.inl rfl
    | some g => exact Or.inr (fun e => hne g hv (by simpa using e))

/-- A turn of the reader's block alone, to what r' says. -/
theorem St.turn {K : Nat → Prop} {R : Nat} {s : Value} {l : List Bool} {N most : Nat} {w : World} {r r' : Rv} (h : St K R s l N most w r) (i : Nat) (x : Value) (hp : r'.p ≤ N) (hts : r'.ts = r.ts)
    (hh : ∀ tv, Has w R (rdi s N most tv r) → Has (w.setCell ⟨R, i, none⟩ x) R (rdi s N most tv r')) : St K R s l N most (w.setCell ⟨R, i, none⟩ x) r' := by
  have hf : Fr K w (w.setCell ⟨R, i, none⟩ x) := Fr.of_only h.lt h.ne (only_set w R i x)
  obtain ⟨tv, h1, h2, h3⟩ := h.has
  refine ⟨fun k hk => by simpa using h.lt k hk, h.ne, sl_keep h.sl h.slK hf, h.slK, glob_keep h.gl h.glK hf, h.glK, hp, by rw [hts]; exact h.toks, by rw [hts]; exact h.le, tv, hh tv h1, ?_, h3⟩
  rw [hts]
  exact own_setR h2 (tok_ne h1 h2)

/-- The same at another place. -/
theorem St.at {K : Nat → Prop} {R : Nat} {s : Value} {l : List Bool} {N most : Nat} {w : World} {r : Rv} (h : St K R s l N most w r) (q : Nat) (hq : q ≤ N) : St K R s l N most (w.setCell ⟨R, 2, none⟩ (.int .i64 (q : Int))) { r with p := q } :=
  h.turn 2 _ hq rfl fun tv hh => by
    unfold rdi at hh ⊢
    have := hh.setSelf (i := 2) (.int .i64 (q : Int))
    simpa using this

/-- What a call of the reader leaves: c = 0, the value and what S says; or a fault. -/
def Out (K : Nat → Prop) (w : World) (c : Int) (v : Value) (S : World → Prop) (e : Ending) (w' : World) : Prop := Fr K w w' ∧ (c = 0 → e = .returned v ∧ S w') ∧ (c ≠ 0 → e = .panicked (Pai c))
theorem Out.ok {K : Nat → Prop} {w w' : World} {v : Value} {S : World → Prop} {e : Ending} (h : Out K w 0 v S e w') : e = .returned v ∧ S w' ∧ Fr K w w' := ⟨(h.2.1 rfl).1, (h.2.1 rfl).2, h.1⟩
theorem Out.bad {K : Nat → Prop} {w w' : World} {c : Int} {v : Value} {S : World → Prop} {e : Ending} (h : Out K w c v S e w') (hc : c ≠ 0) : e = .panicked (Pai c) ∧ Fr K w w' := ⟨h.2.2 hc, h.1⟩
theorem Out.intro {K : Nat → Prop} {w w' : World} {v : Value} {S : World → Prop} (hf : Fr K w w') (hs : S w') : Out K w 0 v S (.returned v) w' := ⟨hf, fun _ => ⟨rfl, hs⟩, fun h => absurd rfl h⟩
theorem Out.fault {K : Nat → Prop} {w w' : World} {c : Int} {v : Value} {S : World → Prop} (hc : c ≠ 0) (hf : Fr K w w') : Out K w c v S (.panicked (Pai c)) w' := ⟨hf, fun h => absurd h hc, fun _ => rfl⟩

theorem keep_rdi {w W w1 : World} {R : Nat} {s tv : Value} {N most : Nat} {r : Rv} (hx : Has w R (rdi s N most tv r)) (hb : Below w.heap.size w W) (hb1 : Below W.heap.size W w1) :
    w1.cell? ⟨R, 0, none⟩ = some s ∧ w1.cell? ⟨R, 1, none⟩ = some (.int .i64 (N : Int)) ∧ w1.cell? ⟨R, 2, none⟩ = some (.int .i64 (r.p : Int)) ∧ Below w.heap.size w w1 := by
  have h := hb.trans (hb1.mono hb.size)
  obtain ⟨c0, c1, c2, _⟩ := rdi_cells (hx.later h)
  exact ⟨c0, c1, c2, h⟩
end Go.Proofs.YtnjlljdbghcobaaGreatDoor
