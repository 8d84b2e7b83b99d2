/- Contract of Table.Read, at a table. -/
import Derived.Test.YtgffcffmhhdceaaHrd
namespace Go.Proofs.Ytgffcffmhhdceaa
open Go.RowKit

/-- What lies in memory for a table: the block of the struct, the block of the symbols. -/
structure Tb (w : World) (T g capg : Nat) (ls : List Nat) : Prop where
  counts : Rw w T 16 (cnt (usedTo ls ls.length))
  slice : w.cell? ⟨T, 16, none⟩ = some (.slice (some ⟨g, 0, none⟩) (Hf.ordl ls).length capg)
  cap : (Hf.ordl ls).length ≤ capg
  syms : Rw w g (Hf.ordl ls).length (fun i => (Hf.ordl ls)[i]?.getD 0)

theorem rw_below {B : Nat} {w w' : World} {g n : Nat} {d : Nat → Nat} (h : Rw w g n d) (hg : g < B) (hb : Below B w w') : Rw w' g n d := h.same (hb.block g hg) (Nat.lt_of_lt_of_le h.lt hb.size)
theorem Tb.below {w w' : World} {T g capg : Nat} {ls : List Nat} (h : Tb w T g capg ls) (hb : Below w.heap.size w w') : Tb w' T g capg ls :=
  ⟨rw_below h.counts h.counts.lt hb, by rw [hb.cell (p := ⟨T, 16, none⟩) h.counts.lt]; exact h.slice, h.cap, rw_below h.syms h.syms.lt hb⟩
theorem tb_of {lo : Nat} {w : World} {T : Nat} {ls : List Nat} (h : Tab lo w T ls) (hg : Good ls) : ∃ g capg, lo ≤ g ∧ Tb w T g capg ls := by
  obtain ⟨sv, h1, h2⟩ := h.syms
  rcases h2 with ⟨_, h0⟩ | ⟨g, capg, rfl, h3, h4, h5⟩
  · have := hg.1; rw [h0] at this; simp at this
  · exact ⟨g, capg, h4, h.counts, h1, h3, h5⟩

set_option maxHeartbeats 2000000 in
theorem read_bad (T g capg : Nat) (ls : List Nat) (hg : Good ls) (s : Value) (bs : List Nat) (N at' : Int) (w : World) (hT : Tb w T g capg ls) (hs : Sl w s bs) (hN : N ≤ 9223372036854775807) (hbad : ¬ (0 ≤ N ∧ Bs.right bs N.toNat) ∨ at' < 0 ∨ N < at') :
    Calls Try.prog 23 #[.pointer (some ⟨T, 0, none⟩), .agg #[s, .int .i64 N], .int .i64 at'] w fun e w' => e = .returned (.tuple #[.int .i64 0, .int .i64 0, .int .i64 2]) ∧ Below w.heap.size w w' := by
  obtain ⟨M, hM⟩ : ∃ M, M = (Hf.ordl ls).length := ⟨_, rfl⟩
  have hM0 : 0 < M := by rw [hM]; exact hg.1
  have hM2 : M ≤ 288 := by rw [hM]; exact hg.2.1
  have HGET : Hid (∀ w', Below w.heap.size w w' → Calls Try.prog 40 #[.agg #[s, .int .i64 N], .int .i64 at', .int .i64 1] w' (Nums w' 0 2)) := by
    intro w' hb
    by_cases h1 : 0 ≤ N ∧ Bs.right bs N.toNat
    · have h2 := hbad.resolve_left (fun h => h h1)
      obtain ⟨n, rfl⟩ := Int.eq_ofNat_of_zero_le h1.1
      exact get_args s bs n at' 1 w' (hs.later hb) (by omega) h1.2 (by rcases h2 with h | h; exact Or.inr (Or.inr (Or.inl h)); exact Or.inr (Or.inr (Or.inr h)))
    · exact get_check s bs N at' 1 w' (hs.later hb) hN h1
  obtain ⟨a, len, cap, rfl, hl⟩ := hs.shape
  obtain ⟨w0, hw0⟩ : ∃ w0, w0 = w.alloc (.cells #[.slice a len cap, .int .i64 N] 36) := ⟨_, rfl⟩
  have hb0 : Below w.heap.size w w0 := by rw [hw0]; exact below1 _ _
  have hx0 : Has w0 w.heap.size (.cells #[.slice a len cap, .int .i64 N] 36 (0, 0)) := by rw [hw0]; exact Has.new _ _
  have hT0 := hT.below hb0
  have c16 := hT0.slice
  have c1 := hT0.counts.cell 1 (by omega)
  rw [← hM] at c16
  obtain ⟨n1, hn1⟩ : ∃ n1, n1 = cnt (usedTo ls ls.length) 1 := ⟨_, rfl⟩
  rw [← hn1] at c1
  have e0 : ((M : Int) == 0) = false := by rw [beq_eq_false_iff_ne]; omega
  obtain ⟨b0, b1, _, _⟩ := hx0.two
  have HB0 := Lib.hid hb0
  clear hT hs hbad hl hM hg hT0 hn1 hb0 hx0
  subst hw0
  go_enter Try.func23, Try.ntmps23
  go_wp2_with fail
  go_quiet (fail)
  go_wp2_with fail
  refine wp_loop_rounds 1 ?_
  rw [rounds_succ]
  go_wp2_with fail
  refine (HGET.out _ (below_drewN HB0.out _)).mono ?_
  rintro e w2 ⟨rfl, hb2⟩
  have HB2 : Hid (Below w.heap.size w w2) := (below_drewN HB0.out nq).trans (hb2.mono HB0.out.size)
  clear hb2
  go_wp2
  go_ret3
  exact ⟨rfl, HB2.out⟩

theorem rd_small {ls : List Nat} {l : List Bool} {p j c : Nat} (hj : j < 15) (h : Hf.Cnt ls l p j c) : c < 32768 := by
  unfold Hf.Cnt at h
  have h1 := Hf.vb_lt l p j
  have h2 : 2 ^ j ≤ 2 ^ 15 := Nat.pow_le_pow_right (by omega) (by omega)
  have h3 : c * 2 ^ (15 - j) ≤ Hf.vb l p j * 2 ^ (15 - j) := by rw [← h]; exact Nat.le_add_right _ _
  have h4 := Nat.le_of_mul_le_mul_right h3 (Nat.two_pow_pos _)
  omega

set_option maxRecDepth 100000 in
set_option maxHeartbeats 4000000 in
theorem read_ok (T g capg : Nat) (ls : List Nat) (hg : Good ls) (s : Value) (l : List Bool) (N p : Nat) (w : World) (hT : Tb w T g capg ls) (hs : Sl w s (Bs.pack l)) (hl : Hid (N = l.length)) (hN : N ≤ 2251799813685248) (hp : p ≤ N) :
    Calls Try.prog 23 #[.pointer (some ⟨T, 0, none⟩), .agg #[s, .int .i64 (N : Int)], .int .i64 (p : Int)] w (RdPost w ls l p) := by
  obtain ⟨M, hM⟩ : ∃ M, M = (Hf.ordl ls).length := ⟨_, rfl⟩
  have hM0 : 0 < M := by rw [hM]; exact hg.1
  have hM2 : M ≤ 288 := by rw [hM]; exact hg.2.1
  have HG := Lib.hid hg
  have HS := Lib.hid hs
  have HT := Lib.hid hT
  have HM := Lib.hid (fun _ : Unit => hM)
  obtain ⟨a, len, cap, rfl, hl'⟩ := hs.shape
  obtain ⟨w0, hw0⟩ : ∃ w0, w0 = w.alloc (.cells #[.slice a len cap, .int .i64 (N : Int)] 36) := ⟨_, rfl⟩
  have hb0 : Below w.heap.size w w0 := by rw [hw0]; exact below1 _ _
  have hx0 : Has w0 w.heap.size (.cells #[.slice a len cap, .int .i64 (N : Int)] 36 (0, 0)) := by rw [hw0]; exact Has.new _ _
  have c16 := (hT.below hb0).slice
  rw [← hM] at c16
  have e0 : ((M : Int) == 0) = false := by rw [beq_eq_false_iff_ne]; omega
  have HB0 := Lib.hid hb0
  have HX0 := Lib.hid hx0
  have HCG : Hid (M ≤ capg) := by show _ ≤ _; rw [hM]; exact hT.cap
  have HW0 := Lib.hid hw0
  clear hT hs hl' hM hg hb0 hx0
  subst hw0
  go_enter Try.func23, Try.ntmps23
  go_wp2_with fail
  go_quiet (fail)
  go_wp2_with fail
  obtain ⟨w1, hw1⟩ : ∃ w1, w1 = (w.alloc (.cells #[.slice a len cap, .int .i64 (N : Int)] 36)).drewN nq := ⟨_, rfl⟩
  have HB1 : Hid (Below w.heap.size w w1) := by rw [hw1]; exact below_drewN HB0.out nq
  have HX1 : Hid (Has w1 w.heap.size (.cells #[.slice a len cap, .int .i64 (N : Int)] 36 (0, 0))) := by rw [hw1]; exact HX0.out
  rw [← hw1]
  clear hw1 c16 HB0 HX0 HW0
  go_loopw [2, 9, 10, 12, 13, 14, 34] (fun s2 s9 s10 _ _ _ s34 wr => ∃ j c m : Nat, j ≤ 15 ∧ s34 = .int .i64 j ∧ s2 = .int .i64 ((p : Int) + (j : Int)) ∧ s9 = .int .i64 c ∧ s10 = .slice (some ⟨g, m, none⟩) (M - m) (capg - m) ∧ m < M ∧ p + j ≤ N ∧ Hid (Unit → m = Hf.mm ls j) ∧ Hid (Unit → Hf.Cnt ls l p j c) ∧
    Hid (∀ r, Hf.Rd ls l p j r → Hf.Rd ls l p 0 r) ∧ Hid (Has wr w.heap.size (.cells #[.slice a len cap, .int .i64 (N : Int)] 36 (0, 0))) ∧ Hid (Below w.heap.size w wr)) (fun _ _ _ _ _ _ s _ => 15 - (intOf s).toNat)
  case atStart => exact ⟨0, 0, 0, by omega, rfl, by go_num, rfl, rfl, by omega, by omega, (fun _ => rfl : Unit → 0 = Hf.mm ls 0), (fun _ => Hf.Cnt.start ls l p : Unit → Hf.Cnt ls l p 0 0), fun r h => h, HX1, HB1⟩
  case round =>
    clear HX1 HB1
    obtain ⟨j, c, m, hj, rfl, rfl, rfl, rfl, hm, hpj, KM, KC, KR, KX, KB⟩ := hrel
    obtain ⟨b0, b1, _, _⟩ := KX.out.two
    by_cases hj15 : j < 15
    · have HT1 := HT.out.below KB.out
      obtain ⟨n, hn⟩ : ∃ n, n = cnt (usedTo ls ls.length) (1 + j) := ⟨_, rfl⟩
      have cn := HT1.counts.cell (1 + j) (by omega)
      rw [← hn] at cn
      have hmm : Hid (Unit → Hf.mm ls (j + 1) = m + n) := by
        show Unit → _ = _
        intro _
        rw [Hf.mm_succ, ← KM.out (), hn, cnt_row _ _ _ (by omega), show 1 + j = j + 1 by omega]
      have hnM : m + n ≤ M := by
        have := Hf.mm_le ls (j + 1) (by omega)
        rw [hmm.out (), ← HM.out ()] at this; exact this
      have hMc : M ≤ capg := HCG.out
      have hnc : m + n ≤ capg := by omega
      by_cases hend : p + j = N
      · have HGT : Hid (∀ w', Below w.heap.size w w' → Calls Try.prog 40 #[.agg #[.slice a len cap, .int .i64 (N : Int)], .int .i64 ((p : Int) + (j : Int)), .int .i64 1] w' (Nums w' 0 4)) := fun w' hb => by
          rw [← Int.natCast_add]
          exact get_short _ (Bs.pack l) N (p + j) 1 w' (HS.out.later hb) (by omega) (by rw [hl.out]; exact Bs.pack_right l) (by omega) hpj (by omega)
        have RS := Lib.hid (fun _ : Unit => KR.out _ (.short j hj15 (by rw [← hl.out]; exact hend)))
        clear hn HT1 hend
        go_wp2_with fail
        refine (HGT.out _ KB.out).mono ?_
        rintro e w2 ⟨rfl, hb2⟩
        have HB2 : Hid (Below w.heap.size w w2) := KB.out.trans (hb2.mono KB.out.size)
        clear hb2
        go_wp2
        go_ret3
        exact ⟨(0, 0, 4), rfl, RS.out (), HB2.out⟩
      · have hlt : p + j < l.length := by rw [← hl.out]; omega
        obtain ⟨bt, hbt⟩ : ∃ bt, bt = (l[p + j]?.getD false).toNat := ⟨_, rfl⟩
        have hbt2 : bt < 2 := by rw [hbt]; exact Bool.toNat_lt _
        have HGT : Hid (∀ w', Below w.heap.size w w' → Calls Try.prog 40 #[.agg #[.slice a len cap, .int .i64 (N : Int)], .int .i64 ((p : Int) + (j : Int)), .int .i64 1] w' (Nums w' (bt : Int) 0)) := fun w' hb => by
          rw [← Int.natCast_add, hbt, ← num_one l (p + j) hlt]
          exact get_ok _ l N (p + j) 1 w' (HS.out.later hb) hl hN (by omega) (by omega)
        have hcb := (KC.out ()).bit hj15
        rw [← hbt, ← KM.out ()] at hcb
        have hcs : c < 32768 := rd_small hj15 (KC.out ())
        have hor := or_bit c bt hcs hbt2
        obtain ⟨d, hd⟩ : ∃ d, d = 2 * c + bt := ⟨_, rfl⟩
        rw [← hd] at hcb hor
        have hd2 : d < 65536 := by omega
        have HL := Lib.hid (fun _ : Unit => hlt)
        have HCB := Lib.hid (fun _ : Unit => hcb)
        clear hn hbt hcb hd hlt
        by_cases hhit : d < n
        · have hk : m + d < M := by omega
          obtain ⟨x, hx⟩ : ∃ x, x = Hf.sy ls (m + d) := ⟨_, rfl⟩
          have HHIT : Hid (Unit → Hf.Rd ls l p 0 (x, p + j + 1, 0)) := by
            show Unit → _
            intro _
            rw [hx]
            refine KR.out _ (.hit j (m + d) hj15 (HL.out ()) ?_)
            have h1 := HCB.out ()
            rw [KM.out ()] at h1 ⊢
            exact Hf.Cnt.hit h1 hj15 (by rw [hmm.out (), ← KM.out ()]; omega)
          have cs := HT1.syms.cell (m + d) (by rw [← HM.out ()]; exact hk)
          rw [show (Hf.ordl ls)[m + d]?.getD 0 = x from hx.symm] at cs
          have hgl := HT1.syms.lt
          have HCS := Lib.hid cs
          clear hx HT1 cs
          go_wp2_with fail
          refine (HGT.out _ KB.out).mono ?_
          rintro e w2 ⟨rfl, hb2⟩
          have cs2 : w2.cell? ⟨g, m + d, none⟩ = some (.int .i64 (x : Int)) := by rw [hb2.cell (p := ⟨g, m + d, none⟩) hgl]; exact HCS.out
          have HB2 : Hid (Below w.heap.size w w2) := KB.out.trans (hb2.mono KB.out.size)
          clear hb2
          go_wp2
          go_ret3
          exact ⟨(x, p + j + 1, 0), by simp, HHIT.out (), HB2.out⟩
        · have HNO : Hid (∀ k, ¬ Hf.Hit ls l p (j + 1) k) := by
            have h1 := HCB.out ()
            rw [KM.out ()] at h1
            exact fun k => Hf.Cnt.nohit h1 hj15 (by rw [hmm.out (), ← KM.out ()]; omega) k
          have HNX : Hid (Unit → Hf.Cnt ls l p (j + 1) (d - n)) := by
            show Unit → _
            intro _
            have h1 := HCB.out ()
            rw [KM.out ()] at h1
            exact Hf.Cnt.next h1 hj15 n (by rw [hmm.out (), ← KM.out ()]) (by omega)
          by_cases hlast : m + n = M
          · have HMS : Hid (Unit → Hf.Rd ls l p 0 (0, 0, 13)) := fun _ => KR.out _ (.miss j hj15 (HL.out ()) HNO.out (Hf.nobeg hj15 HNO.out (by rw [hmm.out (), ← HM.out ()]; exact hlast)))
            have e1 : M - m - n = 0 := by omega
            clear HT1
            have e2 : ((M - m - n : Nat) : Int) = 0 := by omega
            by_cases hcap : capg - m = n
            all_goals
              go_wp2_with fail
              refine (HGT.out _ KB.out).mono ?_
              rintro e w2 ⟨rfl, hb2⟩
              have HB2 : Hid (Below w.heap.size w w2) := KB.out.trans (hb2.mono KB.out.size)
              clear hb2
              go_wp2
              go_quiet (fail)
              go_wp2
              go_ret3
              exact ⟨(0, 0, 13), rfl, HMS.out (), below_drewN HB2.out _⟩
          · obtain ⟨k, hk⟩ := good_beg HG.out hj15 (HNX.out ()) (by rw [hmm.out (), ← HM.out ()]; omega)
            have HRN : Hid (∀ r, Hf.Rd ls l p (j + 1) r → Hf.Rd ls l p 0 r) := fun r h => KR.out _ (.next j k r hj15 (HL.out ()) HNO.out hk h)
            have hne1 : ¬ capg - m = n := by omega
            have hne2 : ¬ n = capg - m := by omega
            have e1 : ((M - m - n : Nat) : Int) ≠ 0 := by omega
            clear HT1 hk
            go_wp2_with fail
            refine (HGT.out _ KB.out).mono ?_
            rintro e w2 ⟨rfl, hb2⟩
            have HB2 : Hid (Below w.heap.size w w2) := KB.out.trans (hb2.mono KB.out.size)
            have KX2 : Hid (Has w2 w.heap.size (.cells #[.slice a len cap, .int .i64 (N : Int)] 36 (0, 0))) := KX.out.later hb2
            clear hb2
            go_wp2
            go_quiet (fail)
            go_wp2
            exact ⟨⟨j + 1, d - n, m + n, by omega, by go_num, by go_num, by go_num, by rw [Nat.sub_sub, Nat.sub_sub], by omega, by omega, (fun _ => (hmm.out ()).symm : Unit → _), (fun _ => HNX.out () : Unit → _), HRN, KX2, below_drewN HB2.out _⟩, by simp [intOf]; omega⟩
    · obtain rfl : j = 15 := by omega
      go_wp2
      go_ret3
      exact ⟨(0, 0, 13), rfl, KR.out _ .last, KB.out⟩
end Go.Proofs.Ytgffcffmhhdceaa
