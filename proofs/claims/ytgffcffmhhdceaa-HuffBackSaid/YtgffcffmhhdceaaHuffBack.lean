/- The statement HuffBack: what was put, symbol by symbol, is read, one after the other. It holds for every two rows of numbers, without a condition. -/
import Derived.Test.YtgffcffmhhdceaaHback
import Derived.Test.YtgffcffmhhdceaaHlives
import Derived.Test.YtgffcffmhhdceaaHarg
import Derived.Deep.CutBlock
namespace Go.Proofs.Ytgffcffmhhdceaa
open Go.ChangeShapes Go.WideShapes Go.ChangeAt Go.RowKit

/-- What stands when some symbols have been put. -/
def Puts (wB : World) (zs : List Int) (put : Value) (wr : World) (ks : List Nat) : Prop :=
  (∀ k ∈ ks, k < zs.length ∧ zs[k]?.getD 0 ≠ 0) ∧ ks.length ≤ 60 ∧ wr.ownsRow wB.heap.size 3 1 put ks.length (vi ks) ∧
    (∃ s, Has wr wB.heap.size (.cells #[s, .int .i64 ((rowOf (nat zs) ks).length : Int)] 36 (0, 0)) ∧ RowMem wr s (rowOf (nat zs) ks)) ∧ Below wB.heap.size wB wr

theorem has_two {w : World} {b : Nat} {x y : Value} {t : TypeId} (h : Has w b (.cells #[x, y] t (0, 0))) (u v : Value) : Has ((w.setCell ⟨b, 0, none⟩ u).setCell ⟨b, 1, none⟩ v) b (.cells #[u, v] t (0, 0)) := by
  have h1 := h.setSelf (i := 0) u
  have h2 := Has.setSelf h1 (i := 1) v
  simpa using h2

theorem Puts.later {wB wr w' : World} {zs : List Int} {put : Value} {ks : List Nat} (h : Puts wB zs put wr ks) (hb : Below wr.heap.size wr w') : Puts wB zs put w' ks := by
  obtain ⟨h1, h2, h3, ⟨s, h4, h5⟩, h6⟩ := h
  exact ⟨h1, h2, own_stays h3 hb, ⟨s, h4.later hb, h5.later hb⟩, h6.trans (hb.mono h6.size)⟩

/-- One symbol more. -/
theorem Puts.more {wB wr w1 : World} {zs : List Int} {put : Value} {ks : List Nat} {k g m n : Nat} (h : Puts wB zs put wr ks) (hb : Below wr.heap.size wr w1) (hk : k < zs.length ∧ zs[k]?.getD 0 ≠ 0) (h60 : ks.length < 60) (hg : wr.heap.size ≤ g)
    (hrow : Has w1 g (bytesObj (Bs.pack (rowOf (nat zs) ks ++ cw (nat zs) k)))) (hm : m = ((rowOf (nat zs) ks ++ cw (nat zs) k).length + 7) / 8) (hn : n = (rowOf (nat zs) ks ++ cw (nat zs) k).length) (ty : TypeId) (xb : Obj) :
    ∃ v' w5, (Builtin.append_ #[22, 22] ty #[put, .slice (some ⟨w1.heap.size + 1, 0, none⟩) 1 1]).run Try.prog
        ((((w1.alloc xb).setCell ⟨wB.heap.size, 0, none⟩ (.slice (some ⟨g, 0, none⟩) m m)).setCell ⟨wB.heap.size, 1, none⟩ (.int .i64 (n : Int))).alloc (.cells #[.int .i64 (k : Int)] 3)) = .ok v' w5 ∧ Puts wB zs v' w5 (ks ++ [k]) := by
  obtain ⟨h1, h2, h3, ⟨s, h4, h5⟩, h6⟩ := h
  have hsz : wB.heap.size < wr.heap.size := h4.lt
  have g1 := (own_stays h3 hb).alloc xb
  have x1 := (h4.later hb).alloc xb
  have r1 := hrow.alloc xb
  obtain ⟨wa, hwa⟩ : ∃ wa, wa = w1.alloc xb := ⟨_, rfl⟩
  have ha : Below wB.heap.size wB wa := by rw [hwa]; exact h6.trans ((hb.trans ((below1 w1 xb).mono hb.size)).mono h6.size)
  have hza : wa.heap.size = w1.heap.size + 1 := by rw [hwa]; simp
  rw [← hwa] at g1 x1 r1 ⊢
  have n1 := own_ne_int g1 x1 (by decide)
  have g3 := ownsRow_setCell_other (ownsRow_setCell_other g1 (a := ⟨wB.heap.size, 0, none⟩) n1 (.slice (some ⟨g, 0, none⟩) m m)) (a := ⟨wB.heap.size, 1, none⟩) n1 (.int .i64 (n : Int))
  have x3 := has_two x1 (.slice (some ⟨g, 0, none⟩) m m) (.int .i64 (n : Int))
  have r3 := (r1.set (a := ⟨wB.heap.size, 0, none⟩) (show g ≠ wB.heap.size by omega) (.slice (some ⟨g, 0, none⟩) m m)).set (a := ⟨wB.heap.size, 1, none⟩) (show g ≠ wB.heap.size by omega) (.int .i64 (n : Int))
  have b3 := (ha.setCell (p := ⟨wB.heap.size, 0, none⟩) (Nat.le_refl _) (.slice (some ⟨g, 0, none⟩) m m)).setCell (p := ⟨wB.heap.size, 1, none⟩) (Nat.le_refl _) (.int .i64 (n : Int))
  have hz3 : ((wa.setCell ⟨wB.heap.size, 0, none⟩ (.slice (some ⟨g, 0, none⟩) m m)).setCell ⟨wB.heap.size, 1, none⟩ (.int .i64 (n : Int))).heap.size = w1.heap.size + 1 := by simp [World.setCell, hza]
  obtain ⟨w3, hw3⟩ : ∃ w3, w3 = (wa.setCell ⟨wB.heap.size, 0, none⟩ (.slice (some ⟨g, 0, none⟩) m m)).setCell ⟨wB.heap.size, 1, none⟩ (.int .i64 (n : Int)) := ⟨_, rfl⟩
  rw [← hw3] at g3 x3 r3 b3 hz3 ⊢
  obtain ⟨v', w5, hrun, g5, hgr⟩ := ints_append g3 ty k (by omega) b3.size
  rw [hz3] at hrun
  have x4 := x3.alloc (.cells #[.int .i64 (k : Int)] 3)
  have r4 := r3.alloc (.cells #[.int .i64 (k : Int)] 3)
  have g4 := g3.alloc (.cells #[.int .i64 (k : Int)] 3)
  have b4 := b3.alloc b3.size (.cells #[.int .i64 (k : Int)] 3)
  have x5 := x4.grown hgr (own_ne_int g4 x4 (by decide)).symm
  have r5 := r4.grown hgr (own_ne_int g4 r4 (by decide)).symm
  have b5 := b4.grown hgr b4.size (fun q hq => (World.ownsRow.lt g4 q hq).1)
  refine ⟨v', w5, hrun, ?_, by simp; omega, by rw [List.length_append]; exact g5, ⟨.slice (some ⟨g, 0, none⟩) m m, ?_, Or.inr ⟨g, ?_, ?_⟩⟩, b5⟩
  · intro x hx
    rcases List.mem_append.1 hx with hx | hx
    · exact h1 x hx
    · rw [List.mem_singleton] at hx; subst hx; exact hk
  · rw [rowOf_snoc, ← hn]; exact x5
  · rw [rowOf_snoc, ← hm]
  · rw [rowOf_snoc]; exact r5

set_option maxRecDepth 100000 in
set_option maxHeartbeats 8000000 in
theorem huffBack_walk (s : Value) (zs : List Int) (t : Value) (ys : List Int) (w : World) (hz : Zl w s zs) (_ : zs.length ≤ 17592186043904) (hy : Zl w t ys) (_ : ys.length ≤ 17592186043904) :
    Calls Try.prog 6 #[s, t] w fun e w' => e = .returned (.bool true) ∧ Below w.heap.size w w' := by
  by_cases hc : newE zs = 0
  · have HNEW := Lib.hid (new_ok zs s w hz hc)
    have hf : Fit zs := by
      unfold newE at hc
      by_cases h : chk zs = 12 ∧ Lone (nat zs)
      · exact Or.inr h.1
      · rw [if_neg h] at hc; exact Or.inl hc
    have HG := Lib.hid (good_of hc)
    have HF := Lib.hid hf
    have HZ := Lib.hid hz
    have HY := Lib.hid hy
    obtain ⟨a0, len0, cap0, rfl, hlen0⟩ := hz.shape
    obtain ⟨a1, len1, cap1, rfl, hlen1⟩ := hy.shape
    have hl0 : 0 < len0 := by have := hf.valid.1; omega
    have hl9 : len0 ≤ 288 := by have := hf.valid.2.1; omega
    have HL0 := Lib.hid hlen0
    have HL1 := Lib.hid hlen1
    clear hz hy hlen0 hlen1 hc hf
    go_enter Try.func6, Try.ntmps6
    go_wp2_with fail
    refine HNEW.out.mono ?_
    clear HNEW
    rintro e wB ⟨T, rfl, hT, hb⟩
    obtain ⟨g, capg, _, hTb⟩ := tb_of hT HG.out
    have TB := Lib.hid hTb
    have BB := Lib.hid hb
    clear hT hTb hb
    go_upto_block 0 with fail
    have TA := Lib.hid (TB.out.below (below1 wB (.cells #[.slice none 0 0, .int .i64 0] 36)))
    have HU := Lib.hid (show IntKind.u64.wrap (len0 : Int) = (len0 : Int) from IntWalk.u64_in _ (by omega))
    go_cut [8] (fun s8 wx => ∃ ks, Hid (Puts wB zs s8 wx ks))
    case first =>
      go_wp2_with fail
      go_loopw [8, 9] (fun s8 s9 wr => ∃ (i : Nat) (ks : List Nat), i ≤ 60 ∧ i ≤ len1 ∧ ks.length ≤ i ∧ s9 = .int .i64 i ∧ Hid (Puts wB zs s8 wr ks)) (fun _ s _ => 60 - (intOf s).toNat)
      case atStart =>
        refine ⟨0, [], by omega, by omega, Nat.le_refl _, rfl, ?_⟩
        exact ⟨fun k hk => by simp at hk, by simp, World.ownsRow_nil _ _ _ _, ⟨.slice none 0 0, Has.new _ _, Or.inl ⟨rfl, rfl⟩⟩, below1 _ _⟩
      case round =>
        obtain ⟨i, ks, hi60, hi1, hki, rfl, KP⟩ := hrel
        obtain ⟨hks, hk60, hown, ⟨s0, hbox, hrow⟩, hbel⟩ := KP.out
        obtain ⟨ar, mr, cr, rfl⟩ := hrow.shape
        obtain ⟨p, hp⟩ : ∃ p, p = wB.heap.size := ⟨_, rfl⟩
        have hrl : (rowOf (nat zs) ks).length ≤ 900 := by
          have := rowOf_le (nat zs) ks fun k hk => HF.out.valid.le k (by rw [nat_length]; exact (hks k hk).1)
          omega
        obtain ⟨L, hL⟩ : ∃ L, L = (rowOf (nat zs) ks).length := ⟨_, rfl⟩
        rw [← hL] at hbox hrl
        have hsz := hbel.size
        by_cases h1 : i < len1
        · by_cases h2 : i < 60
          · obtain ⟨b1, off1, rfl, hb1, hq, hc1⟩ := zl_cell HY.out i (by have := HL1.out; omega)
            have m1 : wr.cell? ⟨b1, off1 + i, none⟩ = some (.int .i64 (ys[i]?.getD 0)) := by
              rw [hbel.cell (p := ⟨b1, off1 + i, none⟩) (Nat.lt_of_lt_of_le hb1 BB.out.size), BB.out.cell (p := ⟨b1, off1 + i, none⟩) hb1]; exact hc1
            obtain ⟨y, hy⟩ : ∃ y, y = ys[i]?.getD 0 := ⟨_, rfl⟩
            rw [← hy] at m1
            obtain ⟨k, hk, ek, ek2⟩ := mod_ix y len0 hl0 (by omega)
            have EK := Lib.hid ek
            have EK2 := Lib.hid ek2
            clear ek ek2
            have zk := HF.out.valid.get k (by have := HL0.out; omega)
            obtain ⟨b0, off0, rfl, hb0, hq0, hc0⟩ := zl_cell HZ.out k (by have := HL0.out; omega)
            obtain ⟨vk, hvk⟩ : ∃ v : Nat, v = (nat zs)[k]?.getD 0 := ⟨_, rfl⟩
            rw [← hvk] at zk
            rw [zk] at hc0
            have hbw : ∀ w1, Below wr.heap.size wr w1 → w1.cell? ⟨b0, off0 + k, none⟩ = some (.int .i64 (vk : Int)) := fun w1 h => by
              rw [h.cell (p := ⟨b0, off0 + k, none⟩) (Nat.lt_of_lt_of_le hb0 (Nat.le_trans BB.out.size hsz)), hbel.cell (p := ⟨b0, off0 + k, none⟩) (Nat.lt_of_lt_of_le hb0 BB.out.size), BB.out.cell (p := ⟨b0, off0 + k, none⟩) hb0]; exact hc0
            have HBW := Lib.hid hbw
            obtain ⟨c0, c1, f0, f1⟩ := hbox.two
            have j1 : (0 : Int) ≤ (i : Int) := by omega
            have j2 : (i : Int) < (len1 : Int) := by omega
            have j3 : (i : Int) < 60 := by omega
            have j4 : (0 : Int) ≤ (k : Int) := by omega
            have j5 : (k : Int) < (len0 : Int) := by omega
            have HROW := Lib.hid hrow
            have HOWN := Lib.hid hown
            have HBOX := Lib.hid hbox
            have HBEL := Lib.hid hbel
            have HL := Lib.hid hL
            have HKS := Lib.hid hks
            have HZR := Lib.hid (HZ.out.later (BB.out.trans (hbel.mono BB.out.size)))
            have HVK := Lib.hid hvk
            have HZK := Lib.hid zk
            clear hq hc1 hy hq0 hc0 hbw hrow hown hbox hbel hL hks hvk zk
            rw [← hp] at c0 c1 f0 f1
            by_cases hv0 : vk = 0
            · have HP := Lib.hid (hput_zero _ _ L _ zs k wr (HROW.out.sl (by rw [← HL.out]; omega)) HZR.out (by omega) (by rw [HL.out]; exact Bs.pack_right _) (by have := HL0.out; omega) HF.out (by rw [HZK.out, hv0]; rfl))
              subst hv0
              rw [← hp]
              have HPP := Lib.hid hp
              have hu : Value.int .u64 (IntKind.u64.wrap (len0 : Int)) = .int .u64 (len0 : Int) := by rw [HU.out]
              have ek : Value.int .u64 ((IntKind.u64.wrap y).tmod (len0 : Int)) = .int .u64 (k : Int) := by rw [EK.out]
              have ek2 : Value.int .i64 (wrap64 (k : Int)) = .int .i64 (k : Int) := by rw [EK2.out]
              clear hp
              go_wp2_with fail
              clear hu ek ek2
              refine HP.out.mono ?_
              clear HP
              rintro e w1 ⟨rfl, hb⟩
              have hb2 := hb.trans ((below1 w1 (.cells #[.slice none 0 0, .int .i64 0] 36)).mono hb.size)
              have hm := HBW.out _ hb2
              have B2 := Lib.hid hb2
              clear hb hb2 c0 c1 f0 f1 m1
              go_wp2
              exact ⟨⟨i + 1, ks, by omega, by omega, by omega, by go_num, KP.out.later B2.out⟩, by simp [intOf]; omega⟩
            · have HP := Lib.hid (hput_ok _ _ L _ zs k wr (HROW.out.sl (by rw [← HL.out]; omega)) HZR.out HL.out (by omega) (by have := HL0.out; omega) HF.out (by rw [HZK.out]; omega))
              unfold RowPost at HP
              have hd1 : decide (0 < vk) = true := decide_eq_true (by omega)
              have hd2 : decide ((0 : Int) < (vk : Int)) = true := decide_eq_true (by omega)
              rw [← hp]
              have HPP := Lib.hid hp
              have hu : Value.int .u64 (IntKind.u64.wrap (len0 : Int)) = .int .u64 (len0 : Int) := by rw [HU.out]
              have ek : Value.int .u64 ((IntKind.u64.wrap y).tmod (len0 : Int)) = .int .u64 (k : Int) := by rw [EK.out]
              have ek2 : Value.int .i64 (wrap64 (k : Int)) = .int .i64 (k : Int) := by rw [EK2.out]
              clear hp
              go_wp2_with fail
              clear hu ek ek2
              refine HP.out.mono ?_
              clear HP
              rintro e w1 ⟨g1, m1', rfl, hm, hg1, hrow1, hb⟩
              obtain ⟨n1, hn1⟩ : ∃ n1, n1 = (rowOf (nat zs) ks ++ cw (nat zs) k).length := ⟨_, rfl⟩
              rw [← hn1]
              obtain ⟨v', w5, hrun, hP⟩ := KP.out.more hb ⟨by have := HL0.out; omega, by rw [HZK.out]; omega⟩ (by omega) hg1 hrow1 hm hn1 22 (.cells #[.slice (some ⟨g1, 0, none⟩) m1' m1', .int .i64 (n1 : Int)] 36)
              have hb2 := hb.trans ((below1 w1 (.cells #[.slice (some ⟨g1, 0, none⟩) m1' m1', .int .i64 (n1 : Int)] 36)).mono hb.size)
              have hm2 := HBW.out _ hb2
              have X1 := Has.new w1 (.cells #[.slice (some ⟨g1, 0, none⟩) m1' m1', .int .i64 (n1 : Int)] 36)
              have XP := (HBOX.out.later hb).alloc (.cells #[.slice (some ⟨g1, 0, none⟩) m1' m1', .int .i64 (n1 : Int)] 36)
              rw [← HPP.out] at hrun XP
              obtain ⟨x0, x1, _, _⟩ := X1.two
              obtain ⟨c0, c1, f0, f1⟩ := XP.two
              have HRUN := Lib.hid hrun
              have HPN := Lib.hid hP
              clear hb hb2 hrow1 hm hn1 hrun hP X1 XP
              go_wp2_with (at_builtin; refine wpList_append_known rfl _ _ 22 rfl _ _ _ _ rfl rfl HRUN.out ?_)
              exact ⟨⟨i + 1, ks ++ [k], by omega, by omega, by simp; omega, by go_num, HPN.out⟩, by simp [intOf]; omega⟩
          · have j2 : (i : Int) < (len1 : Int) := by omega
            have j3 : decide ((i : Int) < 60) = false := decide_eq_false (by omega)
            clear hown hbox hrow hL hrl hp
            go_wp2
            go_meet
            exact ⟨ks, KP⟩
        · have j2 : decide ((i : Int) < (len1 : Int)) = false := decide_eq_false (by omega)
          clear hown hbox hrow hL hrl hp
          go_wp2
          go_meet
          exact ⟨ks, KP⟩
    case rest =>
      obtain ⟨ks, KP⟩ := hcut
      obtain ⟨hks, hk60, hown, ⟨s0, hbox, hrow⟩, hbel⟩ := KP.out
      obtain ⟨ap, capp, rfl⟩ := own_slice hown
      obtain ⟨ar, mr, cr, rfl⟩ := hrow.shape
      have hrl : (rowOf (nat zs) ks).length ≤ 900 := by
        have := rowOf_le (nat zs) ks fun k hk => HF.out.valid.le k (by rw [nat_length]; exact (hks k hk).1)
        omega
      have HS := Lib.hid (hrow.sl (by omega))
      obtain ⟨N, hN⟩ : ∃ N, N = (rowOf (nat zs) ks).length := ⟨_, rfl⟩
      obtain ⟨nk, hnk⟩ : ∃ nk, nk = ks.length := ⟨_, rfl⟩
      obtain ⟨p, hp⟩ : ∃ p, p = wB.heap.size := ⟨_, rfl⟩
      rw [← hN] at hbox hrl
      rw [← hnk, ← hp]
      have hnk60 : nk ≤ 60 := by omega
      have HN := Lib.hid hN
      have HNK := Lib.hid hnk
      have HPP := Lib.hid hp
      have HOWN := Lib.hid hown
      have HBOX := Lib.hid hbox
      have HBEL := Lib.hid hbel
      have HKS := Lib.hid hks
      have TC := Lib.hid (TB.out.below hbel)
      have ZC := Lib.hid (HZ.out.later (BB.out.trans (hbel.mono BB.out.size)))
      clear hks hk60 hown hbox hrow hbel hN hnk hp KP TA
      go_wp2_with fail
      go_loopw [13, 14] (fun s13 s14 wr => ∃ (j q : Nat), j ≤ nk ∧ q ≤ 900 ∧ s14 = .int .i64 j ∧ s13 = .int .i64 q ∧ Hid (q = (rowOf (nat zs) (ks.take j)).length) ∧ Hid (Below wc.heap.size wc wr)) (fun _ s _ => nk - (intOf s).toNat)
      case atStart => exact ⟨0, 0, Nat.zero_le _, Nat.zero_le _, rfl, rfl, rfl, Below.refl _ _⟩
      case round =>
        obtain ⟨j, q, hj, hq9, rfl, rfl, KQ, KB⟩ := hrel
        have hbx := HBOX.out.later KB.out
        rw [← HPP.out] at hbx
        obtain ⟨c0, c1, _, _⟩ := hbx.two
        clear hbx
        by_cases hjn : j < nk
        · have hjk : j < ks.length := by have := HNK.out; omega
          obtain ⟨x, hx⟩ : ∃ x, x = ks[j] := ⟨_, rfl⟩
          obtain ⟨hx1, hx2⟩ := HKS.out x (by rw [hx]; exact List.getElem_mem hjk)
          have hsp := rowOf_split (nat zs) ks j hjk
          rw [← hx] at hsp
          obtain ⟨kk, ekk, hhit, hn0, hle⟩ := code_hit HF.out _ _ _ x hx1 hx2 hsp
          have htk := rowOf_take (nat zs) ks j hjk
          rw [← hx, ← KQ.out] at htk
          rw [← KQ.out] at hhit hle
          obtain ⟨n, hn⟩ : ∃ n, n = Hf.ln (nat zs) x := ⟨_, rfl⟩
          rw [← hn] at hhit hle hn0 htk
          have HRD := Lib.hid (read_code T g capg (nat zs) HG.out (.slice ar mr cr) _ N q n kk wr (TC.out.below KB.out) (HS.out.later KB.out) HN.out (by omega) hhit hn0 (by rw [HN.out]; exact hle))
          rw [ekk] at HRD
          obtain ⟨r, hr⟩ : ∃ r, r = q + n := ⟨_, rfl⟩
          rw [← hr] at HRD htk
          have hr9 : r ≤ 900 := by have := HN.out; omega
          obtain ⟨b0, off0, rfl, hb0, hq0, hc0⟩ := zl_cell ZC.out x hx1
          have zx := HF.out.valid.get x hx1
          have hcx : wc.cell? ⟨b0, off0 + x, none⟩ = some (.int .i64 (n : Int)) := by rw [hc0, zx, hn]; rfl
          have hcp : ∃ gp, ap = some ⟨gp, 0, none⟩ ∧ gp < wc.heap.size ∧ wc.cell? ⟨gp, j, none⟩ = some (.int .i64 (x : Int)) := by
            obtain ⟨gp, cp2, e1, e3⟩ := own_at HOWN.out (by omega)
            cases e1
            refine ⟨gp, rfl, e3, ?_⟩
            rw [HOWN.out.cellAt j (by omega)]
            simp [vi, hjk, hx]
          obtain ⟨gp, rfl, hgp, hcp⟩ := hcp
          have hxl : x < len0 := by have := HL0.out; omega
          have HTK := Lib.hid htk
          have HR := Lib.hid hr
          have HCX := Lib.hid hcx
          have HCP := Lib.hid hcp
          clear hx hx2 hsp ekk hhit hle htk hn hr hq0 hc0 zx hcx hcp hx1 hn0
          have j1 : (0 : Int) ≤ (j : Int) := by omega
          have j2 : (j : Int) < (nk : Int) := by omega
          have j4 : (0 : Int) ≤ (x : Int) := by omega
          have j5 : (x : Int) < (len0 : Int) := by omega
          go_wp2_with fail
          refine HRD.out.mono ?_
          clear HRD
          rintro e w2 ⟨rfl, hb⟩
          have m1 : w2.cell? ⟨b0, off0 + x, none⟩ = some (.int .i64 (n : Int)) := by
            rw [hb.cell (p := ⟨b0, off0 + x, none⟩) (Nat.lt_of_lt_of_le hb0 KB.out.size), KB.out.cell (p := ⟨b0, off0 + x, none⟩) hb0]; exact HCX.out
          have m2 : w2.cell? ⟨gp, j, none⟩ = some (.int .i64 (x : Int)) := by
            rw [hb.cell (p := ⟨gp, j, none⟩) (Nat.lt_of_lt_of_le hgp KB.out.size), KB.out.cell (p := ⟨gp, j, none⟩) hgp]; exact HCP.out
          have er : Value.int .i64 (IntKind.i64.wrap ((q : Int) + (n : Int))) = .int .i64 (r : Int) := by rw [HR.out, IntWalk.i64_in _ (by have := HR.out; omega)]; simp
          have K2 := Lib.hid (KB.out.trans (hb.mono KB.out.size))
          clear hb c0 c1
          go_wp2
          exact ⟨⟨j + 1, r, by omega, hr9, by go_num, rfl, HTK.out.symm, K2.out⟩, by simp [intOf]; omega⟩
        · obtain rfl : j = nk := by omega
          have hqN : q = N := by rw [KQ.out, HN.out, List.take_of_length_le (by rw [HNK.out]; exact Nat.le_refl _)]
          have HRD : Hid (Calls Try.prog 23 #[.pointer (some ⟨T, 0, none⟩), .agg #[.slice ar mr cr, .int .i64 (N : Int)], .int .i64 (q : Int)] wr fun e w' => e = .returned (.tuple #[.int .i64 0, .int .i64 0, .int .i64 4]) ∧ Below wr.heap.size wr w') := by
            refine Calls.mono (read_ok T g capg (nat zs) HG.out (.slice ar mr cr) _ N q wr (TC.out.below KB.out) (HS.out.later KB.out) HN.out (by omega) (by omega)) ?_
            rintro e w' ⟨r, he, hr, hb⟩
            have h := Hf.rd_one hr (Hf.Rd.short 0 (by omega) (by rw [← HN.out, hqN]; rfl))
            rw [h] at he
            exact ⟨he, hb⟩
          have hqe : ((q : Int) == (N : Int)) = true := by rw [beq_iff_eq]; omega
          have BE := Lib.hid (BB.out.trans ((HBEL.out.trans (KB.out.mono HBEL.out.size)).mono BB.out.size))
          have HQ := Lib.hid hqN
          clear hqN
          go_wp2_with fail
          refine HRD.out.mono ?_
          clear HRD
          rintro e w2 ⟨rfl, hb⟩
          have hbx := (HBOX.out.later KB.out).later hb
          rw [← HPP.out] at hbx
          obtain ⟨x0, x1, _, _⟩ := hbx.two
          have B2 := Lib.hid (BE.out.trans (hb.mono BE.out.size))
          clear hb hbx c0 c1
          go_wp2_with fail
          refine (lives_any _).mono ?_
          rintro e w3 ⟨rfl, hb⟩
          have B3 := Lib.hid (B2.out.trans (hb.mono B2.out.size))
          clear hb
          go_wp2
          go_ret
          exact ⟨rfl, B3.out⟩
  · have HNEW := Lib.hid (new_no zs s w hz hc)
    unfold NoTab at HNEW
    obtain ⟨c, hcc⟩ : ∃ c, c = newE zs := ⟨_, rfl⟩
    rw [← hcc] at HNEW hc
    clear hz hy hcc
    go_enter Try.func6, Try.ntmps6
    go_wp2_with fail
    refine HNEW.out.mono ?_
    clear HNEW
    rintro e w1 ⟨rfl, hb⟩
    have B1 := Lib.hid hb
    clear hb
    go_wp2_with fail
    refine (lives_any _).mono ?_
    rintro e w2 ⟨rfl, hb⟩
    have B2 := Lib.hid (B1.out.trans (hb.mono B1.out.size))
    clear hb
    go_wp2
    go_ret
    exact ⟨rfl, B2.out⟩

set_option maxRecDepth 100000 in
theorem huffBack_lifted (os : Os) (started : os.Started) (H : Type) (enc : TypeId × Value → H) :
    ReturnsInHanded {} Try.checked os 6 .any (Rows.huffBackSpec.pre6 enc Try.prog Try.f6 Rows.huffBackRow.domain false) (Rows.huffBackSpec.post enc Try.prog Try.f6 false true false false) := by
  refine returnsInHanded_of_change_sized (C := Try.checked) Try.own started (by kernel_rfl) Try.func6
    (ChangeSpec.witness6 (enc := enc) (C := Try.checked) false ⟨#[], #[.slice none 0 0, .slice none 0 0], []⟩ 8 (by kernel_rfl) (by kernel_rfl) (by kernel_rfl) (by kernel_rfl)) ?_
  intro W base args ds gs before hval0 hW _ hsz0 _
  have hval : ∀ (j : Nat) t v, Try.f6.params[j]? = some t → args[j]? = some v → Value.okWide Try.prog W .any base t v := hval0
  have hsz : (DataW.weightsEach Try.prog (Try.f6.params.toList ++ Rows.huffBackSpec.plain.varTypes Try.prog) (ds ++ gs)).all (· ≤ reachBytes) = true := hsz0
  have hW' := hW
  obtain ⟨p, q, hA0, hV, rfl, hfz, hnd⟩ := hW
  have hA : DataW.TrodAll enc Try.prog W 0 (fun _ => true) true Try.f6.params.toList args.toList ds p := hA0
  rw [Try.params6] at hA hval hsz
  obtain ⟨v0, vs0, d0, ds0, p0, q0, hargs, rfl, rfl, h0, r0⟩ := trodAll_cons hA
  obtain ⟨v1, vs1, d1, ds1, p1, q1, rfl, rfl, rfl, h1, r1⟩ := trodAll_cons r0
  obtain ⟨rfl, rfl, rfl⟩ := trodAll_nil r1
  obtain rfl : args = #[v0, v1] := by cases args; simp_all
  obtain ⟨rfl, rfl⟩ := trodVars_none hV
  have k0 := h0
  have lt0 : ∀ x ∈ p0, x.block < W.heap.size := by obtain ⟨m, hm⟩ := k0; exact DataW.trod_lt m _ _ _ hm
  have w0 : ∀ n ∈ d0.weights Try.prog 22, n ≤ reachBytes := fun n hn => by simpa using List.all_eq_true.1 hsz n (DataW.weights_mem_each (j := 0) rfl rfl n hn)
  obtain ⟨zs0, zl0, ln0⟩ := ints_open (hval 0 22 v0 rfl rfl) h0 w0
  have k1 := h1
  have lt1 : ∀ x ∈ p1, x.block < W.heap.size := by obtain ⟨m, hm⟩ := k1; exact DataW.trod_lt m _ _ _ hm
  have w1 : ∀ n ∈ d1.weights Try.prog 22, n ≤ reachBytes := fun n hn => by simpa using List.all_eq_true.1 hsz n (DataW.weights_mem_each (j := 1) rfl rfl n hn)
  obtain ⟨zs1, zl1, ln1⟩ := ints_open (hval 1 22 v1 rfl rfl) h1 w1
  clear hA0 hval0 hsz0
  refine (huffBack_walk v0 zs0 v1 zs1 W zl0 ln0 zl1 ln1).mono fun e W' ⟨he, bel⟩ => ?_
  subst he
  exact ⟨_, rfl, _, _, _, [], _, [], hW', trodAll_mk1 (shut_bool Try.underlying4 _), (trodAll_cons_mk (Below.trod Try.laidOut (by kernel_rfl) (of_decide_eq_true (by kernel_rfl)) k0 bel lt0) (trodAll_cons_mk (Below.trod Try.laidOut (by kernel_rfl) (of_decide_eq_true (by kernel_rfl)) k1 bel lt1) trodAll_mk0)), rfl, bel.frame _, fun h => by cases h⟩

theorem huffBack_proved : Rows.HuffBackSaid :=
  OpenClaim.holds_of_wide 6 Try.f6 rfl rfl rfl rfl rfl rfl rfl ⟨rfl, rfl, rfl, rfl, rfl⟩ rfl rfl rfl rfl rfl (by kernel_rfl) Try.func6 (by kernel_rfl)
    (of_decide_eq_true (by kernel_rfl)) (by unfold Func.isWrapper; rw [if_neg (of_decide_eq_false (by kernel_rfl))]; exact ⟨rfl, rfl⟩)
    (fun os started H enc _ => huffBack_lifted os started H enc)
end Go.Proofs.Ytgffcffmhhdceaa
