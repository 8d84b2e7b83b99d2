/- Contract of merged. -/
import Derived.Test.YtedbonnejgpjeaaLpair
import Derived.Test.YtedbonnejgpjeaaLapp
import Derived.Deep.RegionHeld3
namespace Go.Proofs.Ytedbonnejgpjeaa
open Go.RowKit

theorem choose_list {α : Type} : ∀ (ts : List α) (R : Nat → α → Nat → Prop), (∀ i t, ts[i]? = some t → ∃ p, R i t p) → ∃ qs : List Nat, qs.length = ts.length ∧ ∀ (i : Nat) (t : α) (q : Nat), ts[i]? = some t → qs[i]? = some q → R i t q
  | [], R, _ => ⟨[], rfl, fun i t q h => by simp at h⟩
  | t :: ts, R, h => by
    obtain ⟨p, hp⟩ := h 0 t rfl
    obtain ⟨qs, h1, h2⟩ := choose_list ts (fun i => R (i + 1)) fun i u hu => h (i + 1) u (by rw [List.getElem?_cons_succ]; exact hu)
    refine ⟨p :: qs, by simp [h1], fun i u q hu hq => ?_⟩
    cases i with
    | zero => simp at hu hq; subst hu hq; exact hp
    | succ i => rw [List.getElem?_cons_succ] at hu hq; exact h2 i u q hu hq

/-- A list of packages of the call's own. -/
def Ow (w wr : World) (v : Value) (zs : List Lm.Tr) : Prop :=
  ∃ bs : List Nat, bs.length = zs.length ∧ wr.ownsRow w.heap.size 45 1 v zs.length (vp bs) ∧ (∀ (i b : Nat) (t : Lm.Tr), bs[i]? = some b → zs[i]? = some t → Pk wr t b) ∧ Below w.heap.size w wr

theorem Ow.pl {w wr : World} {v : Value} {zs : List Lm.Tr} (h : Ow w wr v zs) (hl : zs.length ≤ 1024) : Pl wr v zs := by
  obtain ⟨bs, h1, h2, h3, _⟩ := h
  rcases h2.2 with ⟨rfl, h0⟩ | ⟨g, cap, cur, rfl, _, hg, hle, _⟩
  · rw [List.eq_nil_of_length_eq_zero h0]; exact Pl.nil _
  · refine ⟨_, _, _, rfl, rfl, hle, by omega, fun h => by simp at h, fun _ => ⟨g, 0, rfl, lt_of_block hg, fun i t hi => ?_⟩⟩
    have hil := (List.getElem?_eq_some_iff.1 hi).1
    have er : bs[i]? = some (bs[i]'(by omega)) := List.getElem?_eq_getElem _
    refine ⟨bs[i]'(by omega), ?_, h3 i _ t er hi⟩
    rw [Nat.zero_add, h2.cellAt i (by omega)]
    simp [vp, er]

theorem snoc_get {α : Type} {xs : List α} {y z : α} {i : Nat} (h : (xs ++ [y])[i]? = some z) : (i < xs.length ∧ xs[i]? = some z) ∨ (i = xs.length ∧ z = y) := by
  by_cases hlt : i < xs.length
  · rw [List.getElem?_append_left hlt] at h; exact .inl ⟨hlt, h⟩
  · have e : i = xs.length := by
      have := (List.getElem?_eq_some_iff.1 h).1
      rw [List.length_append, List.length_singleton] at this; omega
    subst e
    rw [List.getElem?_append_right (Nat.le_refl _), Nat.sub_self] at h
    simp at h
    exact .inr ⟨rfl, h.symm⟩

/-- One more of them. -/
theorem Ow.more {w wr : World} {g cap n : Nat} {zs : List Lm.Tr} (h : Ow w wr (.slice (some ⟨g, 0, none⟩) n cap) zs) (hn : n = zs.length) (t : Lm.Tr) (p : Nat) (hp : Pk wr t p) (hl : zs.length ≤ 5000) :
    ∃ g' cap' w2, (Builtin.append_ #[42, 42] 42 #[.slice (some ⟨g, 0, none⟩) n cap, .slice (some ⟨wr.heap.size, 0, none⟩) 1 1]).run Try.prog
      ((wr.alloc (.cells #[.pointer (some ⟨p, 0, none⟩)] 45)).drew) = .ok (.slice (some ⟨g', 0, none⟩) (n + 1) cap') w2 ∧ Hid (Ow w w2 (.slice (some ⟨g', 0, none⟩) (n + 1) cap') (zs ++ [t])) := by
  obtain ⟨bs, h1, h2, h3, hb⟩ := h
  subst hn
  have hsz := hb.size
  have k2 := (h2.alloc (.cells #[.pointer (some ⟨p, 0, none⟩)] 45)).drew
  have hc := (Has.new wr (.cells #[.pointer (some ⟨p, 0, none⟩)] 45)).one.1
  obtain ⟨v', w2, hrun, ho, hg⟩ := run_app1 42 45 (.pointer none) Try.underlying42 Try.infoPack rfl 42 k2 wr.heap.size _ rfl hc (by omega) (by simp; omega)
  obtain ⟨g', cap', rfl⟩ := ownsRow_succ ho
  refine ⟨g', cap', w2, hrun, bs ++ [p], by rw [List.length_append, List.length_append, h1]; rfl, by rw [vp_snoc, List.length_append]; exact ho, fun i b u hi hu => ?_, ?_⟩
  · have step : ∀ {u : Lm.Tr} {b : Nat}, Pk wr u b → Pk w2 u b := fun hh => Pk.grown k2 hg (hh.later ((below1 wr _).drew))
    rcases snoc_get hi with ⟨hlt, hi⟩ | ⟨rfl, rfl⟩
    · rw [List.getElem?_append_left (by omega)] at hu
      exact step (h3 i b u hi hu)
    · rw [h1, List.getElem?_append_right (Nat.le_refl _), Nat.sub_self] at hu
      simp at hu
      subst hu
      exact step hp
  · exact (hb.trans (((below1 wr _).mono hsz).drew)).grown hg (by simp; omega) (fun q e => (World.ownsRow.lt h2 q e).1)

/-- All of a list behind them. -/
theorem Ow.all {w wr : World} {g cap n : Nat} {zs : List Lm.Tr} (h : Ow w wr (.slice (some ⟨g, 0, none⟩) n cap) zs) (hn : n = zs.length) {a : Option Addr} {m c : Nat} {xs : List Lm.Tr} (hx : Pl w (.slice a m c) xs) (hl : zs.length + xs.length ≤ 5000) :
    ∃ g' cap' w2, (Builtin.append_ #[42, 42] 42 #[.slice (some ⟨g, 0, none⟩) n cap, .slice a m c]).run Try.prog wr = .ok (.slice (some ⟨g', 0, none⟩) (n + m) cap') w2 ∧
      Hid (Ow w w2 (.slice (some ⟨g', 0, none⟩) (n + m) cap') (zs ++ xs)) := by
  obtain ⟨bs, h1, h2, h3, hb⟩ := h
  subst hn
  have hx' := hx.later hb
  obtain ⟨a', m', c', e, e1, e2, e3, e4, e5⟩ := hx'
  cases e
  subst e1
  have hsz := hb.size
  obtain ⟨i0, hi, hz0, hz1, hz2⟩ := info_parts Try.infoPack
  obtain ⟨qs, q1, q2⟩ : ∃ qs : List Nat, qs.length = xs.length ∧ (0 < xs.length → ∃ ad, a = some ad ∧ ∀ (j : Nat) (t : Lm.Tr) (q : Nat), xs[j]? = some t → qs[j]? = some q → wr.cell? (ad.add j) = some (.pointer (some ⟨q, 0, none⟩)) ∧ Pk wr t q) := by
    rcases Nat.eq_zero_or_pos xs.length with h0 | h0
    · exact ⟨[], by simp [h0], fun h => by omega⟩
    · obtain ⟨b, off, rfl, hlt, hc⟩ := e5 h0
      obtain ⟨qs, q1, q2⟩ := choose_list xs _ hc
      refine ⟨qs, q1, fun _ => ⟨_, rfl, fun j t q ht hq => ?_⟩⟩
      have e : (⟨b, off, none⟩ : Addr).add j = ⟨b, off + j, none⟩ := by cases j <;> simp [Addr.add]
      rw [e]; exact q2 j t q ht hq
  obtain ⟨g', cap', w2, hrun, ho, hg⟩ := run_append_mine (P := Try.prog) (w := wr) w.heap.size 42 42 45 i0 (.pointer none) 1 8 Try.underlying42 hi hz0 hz1 hz2 rfl (by decide)
    g cap zs.length (vp bs) h2 a xs.length c (vp qs) (by rw [vp_length]; omega) e4
    (fun h0 => by
      obtain ⟨ad, rfl, hh⟩ := q2 h0
      refine ⟨ad, rfl, fun j u hj => ?_⟩
      have hjl := (List.getElem?_eq_some_iff.1 hj).1
      rw [vp_length] at hjl
      have eq : qs[j]? = some (qs[j]'hjl) := List.getElem?_eq_getElem _
      have ex : xs[j]? = some (xs[j]'(by omega)) := List.getElem?_eq_getElem _
      simp only [vp, List.getElem?_map, eq, Option.map_some, Option.some.injEq] at hj
      subst hj
      exact (hh j _ _ ex eq).1)
    (fun u hu => by simp only [vp, List.mem_map] at hu; obtain ⟨x, _, rfl⟩ := hu; rfl) (by unfold maxLen; omega) (by omega) (by omega)
  refine ⟨g', cap', w2, hrun, bs ++ qs, by simp [h1, q1], by rw [List.length_append, show vp (bs ++ qs) = vp bs ++ vp qs by simp [vp]]; exact ho, fun i b u hi' hu => ?_, ?_⟩
  · have step : ∀ {u : Lm.Tr} {b : Nat}, Pk wr u b → Pk w2 u b := fun hh => Pk.grown h2 hg hh
    by_cases hlt : i < bs.length
    · rw [List.getElem?_append_left hlt] at hi'
      rw [List.getElem?_append_left (by omega)] at hu
      exact step (h3 i b u hi' hu)
    · rw [List.getElem?_append_right (by omega)] at hi'
      rw [List.getElem?_append_right (by omega)] at hu
      have hil := (List.getElem?_eq_some_iff.1 hu).1
      obtain ⟨ad, _, hh⟩ := q2 (by omega)
      rw [← h1] at hu
      exact step (hh _ _ _ hu hi').2
  · exact hb.grown hg hsz (fun q e => (World.ownsRow.lt h2 q (by exact e)).1)

theorem Ow.drewN {w wr : World} {v : Value} {zs : List Lm.Tr} (h : Ow w wr v zs) (k : Nat) : Ow w (wr.drewN k) v zs := by
  obtain ⟨bs, h1, h2, h3, h4⟩ := h
  exact ⟨bs, h1, h2, fun i b t e1 e2 => (h3 i b t e1 e2).later (below_drewN (Below.refl _ _) k), below_drewN h4 k⟩

set_option maxHeartbeats 4000000 in
theorem merged_any (s1 s2 : Value) (xs ys : List Lm.Tr) (w : World) (h1 : Pl w s1 xs) (h2 : Pl w s2 ys) :
    Calls Try.prog 35 #[s1, s2] w fun e w' => ∃ v, e = .returned v ∧ Ow w w' v (Lm.mrg Lm.Tr.wt xs ys) ∧ Below w.heap.size w w' := by
  obtain ⟨a1, c1, rfl, _, l1⟩ := h1.shape
  obtain ⟨a2, c2, rfl, _, l2⟩ := h2.shape
  obtain ⟨zz, hzz⟩ : ∃ zz, zz = Lm.mrg Lm.Tr.wt xs ys := ⟨_, rfl⟩
  have hzl : zz.length = xs.length + ys.length := by rw [hzz, Lm.mrg_length]
  rw [← hzz]
  obtain ⟨n1, hn1⟩ : ∃ n1, n1 = xs.length := ⟨_, rfl⟩
  obtain ⟨n2, hn2⟩ : ∃ n2, n2 = ys.length := ⟨_, rfl⟩
  rw [← hn1] at h1 l1 hzl ⊢
  rw [← hn2] at h2 l2 hzl ⊢
  have H1 := Lib.hid h1
  have H2 := Lib.hid h2
  have N1 := Lib.hid hn1
  have N2 := Lib.hid hn2
  have HZ := Lib.hid hzz
  have HZL := Lib.hid hzl
  clear h1 h2 hn1 hn2 hzz hzl
  obtain ⟨i0, hi, hz0, hz1, hz2⟩ := info_parts Try.infoPack
  go_enter Try.func35, Try.ntmps35
  go_wp2_with (at_make; refine wpList_make_own _ rfl _ _ 42 rfl w.heap.size 45 i0 (.pointer none) 1 Try.underlying42 hi hz0 hz1 .i64 .i64 _ (n1 + n2) rfl rfl (by go_num) (by rw [hz2]; omega) (by unfold maxLen; omega) (Nat.le_refl _) ?_; intro w1 hown hgr)
  have hO : Ow w w1 (.slice (some ⟨w.heap.size, 0, none⟩) 0 (n1 + n2)) [] := ⟨[], rfl, hown, fun i b t h => by simp at h, (Below.refl _ w).grown hgr (Nat.le_refl _) (fun q e => by cases e)⟩
  have HO := Lib.hid hO
  clear hO hown hgr hi hz0 hz1 hz2
  go_loopw [0, 1, 5] (fun s0 s1 s5 wr => ∃ (u1 u2 : Option Addr) (m1 d1 m2 d2 g n cap : Nat) (xs' ys' zs : List Lm.Tr), s0 = .slice u1 m1 d1 ∧ s1 = .slice u2 m2 d2 ∧ s5 = .slice (some ⟨g, 0, none⟩) n cap ∧ m1 ≤ 1024 ∧ m2 ≤ 1024 ∧ Hid (m1 = xs'.length) ∧ Hid (m2 = ys'.length) ∧ Hid (n = zs.length) ∧
      Hid (Pl w (.slice u1 m1 d1) xs') ∧ Hid (Pl w (.slice u2 m2 d2) ys') ∧ Hid (Ow w wr (.slice (some ⟨g, 0, none⟩) n cap) zs) ∧ Hid (Unit → zs ++ Lm.mrg Lm.Tr.wt xs' ys' = zz))
    (fun s t _ _ => (match s with | .slice _ m _ => m | _ => 0) + (match t with | .slice _ m _ => m | _ => 0))
  case atStart => exact ⟨_, _, _, _, _, _, _, _, _, xs, ys, [], rfl, rfl, rfl, l1, l2, N1, N2, rfl, H1, H2, HO, fun _ => HZ.out.symm⟩
  case round =>
    clear N1 N2 H1 H2 HO
    obtain ⟨u1, u2, m1, d1, m2, d2, g, n, cap, xs', ys', zs, rfl, rfl, rfl, b1, b2, N1, N2, N3, H1, H2, HO, HE⟩ := hrel
    have hB : Below w.heap.size w wr := by obtain ⟨_, _, _, _, h⟩ := HO.out; exact h
    have hzn : zs.length ≤ 2048 := by
      have h1 := congrArg List.length (HE.out ())
      rw [List.length_append, HZL.out] at h1; omega
    by_cases h1 : 0 < m1
    · by_cases h2 : 0 < m2
      · obtain ⟨x, xs2, rfl⟩ : ∃ x xs2, xs' = x :: xs2 := by
          cases xs' with
          | nil => have := N1.out; simp at this; omega
          | cons x xs2 => exact ⟨x, xs2, rfl⟩
        obtain ⟨y, ys2, rfl⟩ : ∃ y ys2, ys' = y :: ys2 := by
          cases ys' with
          | nil => have := N2.out; simp at this; omega
          | cons y ys2 => exact ⟨y, ys2, rfl⟩
        obtain ⟨e1, o1, p, rfl, lt1, cx, kx, hd1, hx0, hx1⟩ := H1.out.head
        obtain ⟨e2, o2, q, rfl, lt2, cy, ky, hd2, hy0, hy1⟩ := H2.out.head
        have M1 : Hid (m1 - 1 = xs2.length) := by have := N1.out; simp at this; show _ = _; omega
        have M2 : Hid (m2 - 1 = ys2.length) := by have := N2.out; simp at this; show _ = _; omega
        rw [← M1.out] at hx0 hx1
        rw [← M2.out] at hy0 hy1
        have X1 := Lib.hid hx1
        have Y1 := Lib.hid hy1
        have X0 := Lib.hid hx0
        have Y0 := Lib.hid hy0
        have gx := (hB.cell (p := ⟨e1, o1, none⟩) lt1).trans cx
        have gy := (hB.cell (p := ⟨e2, o2, none⟩) lt2).trans cy
        have px := kx.later hB
        have py := ky.later hB
        have wx := px.wt
        have wy := py.wt
        obtain ⟨vx, hvx⟩ : ∃ vx, vx = x.wt := ⟨_, rfl⟩
        obtain ⟨vy, hvy⟩ : ∃ vy, vy = y.wt := ⟨_, rfl⟩
        rw [← hvx] at wx
        rw [← hvy] at wy
        have PX := Lib.hid px
        have PY := Lib.hid py
        have EX := Lib.hid hvx
        have EY := Lib.hid hvy
        clear cx cy kx ky px py hvx hvy hx0 hy0 hx1 hy1
        by_cases hlt : vy < vx
        · have HE2 : Hid (Unit → (zs ++ [y]) ++ Lm.mrg Lm.Tr.wt (x :: xs2) ys2 = zz) := fun _ => by
            rw [← HE.out (), Lm.mrg_cons, if_pos (by rw [← EX.out, ← EY.out]; exact hlt), List.append_assoc]; rfl
          clear HE
          go_wp2_with fail
          go_quiet (fail)
          obtain ⟨g', cap', w2, hrun, hO⟩ := (HO.out.drewN nq).more N3.out y q (PY.out.later (below_drewN (Below.refl _ _) nq)) (by omega)
          have hB2 : Below w.heap.size w w2 := by obtain ⟨_, _, _, _, h⟩ := hO.out; exact h
          have d2' : w2.cell? ⟨e2, o2, none⟩ = some (.pointer (some ⟨q, 0, none⟩)) := (hB2.cell (p := ⟨e2, o2, none⟩) lt2).trans ((hB.cell (p := ⟨e2, o2, none⟩) lt2).symm.trans gy)
          have HRUN := Lib.hid hrun
          have NN : Hid (n + 1 = (zs ++ [y]).length) := by show _ = _; rw [List.length_append, ← N3.out]; rfl
          clear hrun hB hB2 HO PX PY EX EY N3 H2 N2 X0 X1 gx wx wy
          have g1 : (1 : Int) ≤ (m2 : Int) := by omega
          have g2 : (m2 : Int) ≤ (d2 : Int) := by omega
          by_cases g3 : d2 = 1
          · have G3 := Lib.hid g3
            go_wp2_with fail
            go_region_held3 (fun wx => wx.cell? ⟨e2, o2, none⟩ = some (.pointer (some ⟨q, 0, none⟩))) (go_keep) (first | (refine step_append_known rfl (.tmp 33) (.tmp 37) 42 rfl _ _ _ w2 (by simp [Act.eval]) (by simp [Act.eval]) HRUN.out ?_))
            go_wp2_with fail
            go_roundw
            case rel => exact ⟨_, _, _, _, _, _, _, _, _, x :: xs2, ys2, zs ++ [y], rfl, rfl, rfl, b1, by omega, N1, M2, NN, H1, (by have h := Y0.out G3.out; rw [G3.out] at h; exact h), hO, HE2⟩
            case measure => simp; omega
          · have g4 : ¬ d2 - 1 = 0 := by omega
            go_wp2_with fail
            go_region_held3 (fun wx => wx.cell? ⟨e2, o2, none⟩ = some (.pointer (some ⟨q, 0, none⟩))) (go_keep) (first | (refine step_append_known rfl (.tmp 33) (.tmp 37) 42 rfl _ _ _ w2 (by simp [Act.eval]) (by simp [Act.eval]) HRUN.out ?_))
            go_wp2_with fail
            go_roundw
            case rel => exact ⟨_, _, _, _, _, _, _, _, _, x :: xs2, ys2, zs ++ [y], rfl, rfl, rfl, b1, by omega, N1, M2, NN, H1, Y1, hO, HE2⟩
            case measure => simp; omega
        · have HE2 : Hid (Unit → (zs ++ [x]) ++ Lm.mrg Lm.Tr.wt xs2 (y :: ys2) = zz) := fun _ => by
            rw [← HE.out (), Lm.mrg_cons, if_neg (by rw [← EX.out, ← EY.out]; exact hlt), List.append_assoc]; rfl
          clear HE
          go_wp2_with fail
          go_quiet (fail)
          obtain ⟨g', cap', w2, hrun, hO⟩ := (HO.out.drewN nq).more N3.out x p (PX.out.later (below_drewN (Below.refl _ _) nq)) (by omega)
          have hB2 : Below w.heap.size w w2 := by obtain ⟨_, _, _, _, h⟩ := hO.out; exact h
          have d2' : w2.cell? ⟨e1, o1, none⟩ = some (.pointer (some ⟨p, 0, none⟩)) := (hB2.cell (p := ⟨e1, o1, none⟩) lt1).trans ((hB.cell (p := ⟨e1, o1, none⟩) lt1).symm.trans gx)
          have HRUN := Lib.hid hrun
          have NN : Hid (n + 1 = (zs ++ [x]).length) := by show _ = _; rw [List.length_append, ← N3.out]; rfl
          clear hrun hB hB2 HO PX PY EX EY N3 H1 N1 Y0 Y1 gy wx wy
          have g1 : (1 : Int) ≤ (m1 : Int) := by omega
          have g2 : (m1 : Int) ≤ (d1 : Int) := by omega
          by_cases g3 : d1 = 1
          · have G3 := Lib.hid g3
            go_wp2_with fail
            go_region_held3 (fun wx => wx.cell? ⟨e1, o1, none⟩ = some (.pointer (some ⟨p, 0, none⟩))) (go_keep) (first | (refine step_append_known rfl (.tmp 41) (.tmp 45) 42 rfl _ _ _ w2 (by simp [Act.eval]) (by simp [Act.eval]) HRUN.out ?_))
            go_wp2_with fail
            go_roundw
            case rel => exact ⟨_, _, _, _, _, _, _, _, _, xs2, y :: ys2, zs ++ [x], rfl, rfl, rfl, by omega, b2, M1, N2, NN, (by have h := X0.out G3.out; rw [G3.out] at h; exact h), H2, hO, HE2⟩
            case measure => simp; omega
          · have g4 : ¬ d1 - 1 = 0 := by omega
            go_wp2_with fail
            go_region_held3 (fun wx => wx.cell? ⟨e1, o1, none⟩ = some (.pointer (some ⟨p, 0, none⟩))) (go_keep) (first | (refine step_append_known rfl (.tmp 41) (.tmp 45) 42 rfl _ _ _ w2 (by simp [Act.eval]) (by simp [Act.eval]) HRUN.out ?_))
            go_wp2_with fail
            go_roundw
            case rel => exact ⟨_, _, _, _, _, _, _, _, _, xs2, y :: ys2, zs ++ [x], rfl, rfl, rfl, by omega, b2, M1, N2, NN, X1, H2, hO, HE2⟩
            case measure => simp; omega
      · have h20 : m2 = 0 := by omega
        obtain ⟨g', cap', w2, hrun, hO⟩ := HO.out.all N3.out H1.out (by have := N1.out; omega)
        have N4 : Hid (n + m1 = (zs ++ xs').length) := by show _ = _; rw [List.length_append, ← N3.out, ← N1.out]
        obtain ⟨g3, cap3, w3, hrun3, hO3⟩ := hO.out.all N4.out H2.out (by have := N1.out; have := N2.out; rw [List.length_append]; omega)
        have HF : Hid ((zs ++ xs') ++ ys' = zz) := by
          show _ = _
          rw [← HE.out (), List.append_assoc]
          congr 1
          rw [show ys' = [] from List.eq_nil_of_length_eq_zero (by have := N2.out; omega), Lm.mrg_nil_right, List.append_nil]
        have R1 := Lib.hid hrun
        have R3 := Lib.hid hrun3
        clear hrun hrun3 hB h20 N1 N2 N3 H1 H2 HO HE hO N4
        go_wp2_with (at_builtin; first | (refine wpList_append_known rfl (.tmp 49) (.tmp 50) 42 rfl _ _ _ w2 rfl rfl R1.out ?_) | (refine wpList_append_known rfl (.tmp 51) (.tmp 52) 42 rfl _ _ _ w3 rfl rfl R3.out ?_))
        go_ret
        refine ⟨_, rfl, ?_, ?_⟩
        · have h := hO3.out
          rw [HF.out] at h
          exact h
        · obtain ⟨_, _, _, _, h⟩ := hO3.out; exact h
    · have h10 : m1 = 0 := by omega
      obtain ⟨g', cap', w2, hrun, hO⟩ := HO.out.all N3.out H1.out (by have := N1.out; omega)
      have N4 : Hid (n + m1 = (zs ++ xs').length) := by show _ = _; rw [List.length_append, ← N3.out, ← N1.out]
      obtain ⟨g3, cap3, w3, hrun3, hO3⟩ := hO.out.all N4.out H2.out (by have := N1.out; have := N2.out; rw [List.length_append]; omega)
      have HF : Hid ((zs ++ xs') ++ ys' = zz) := by
        show _ = _
        rw [← HE.out (), List.append_assoc]
        congr 1
        rw [show xs' = [] from List.eq_nil_of_length_eq_zero (by have := N1.out; omega), Lm.mrg_nil_left, List.nil_append]
      have R1 := Lib.hid hrun
      have R3 := Lib.hid hrun3
      clear hrun hrun3 hB h10 N1 N2 N3 H1 H2 HO HE hO N4
      go_wp2_with (at_builtin; first | (refine wpList_append_known rfl (.tmp 49) (.tmp 50) 42 rfl _ _ _ w2 rfl rfl R1.out ?_) | (refine wpList_append_known rfl (.tmp 51) (.tmp 52) 42 rfl _ _ _ w3 rfl rfl R3.out ?_))
      go_ret
      refine ⟨_, rfl, ?_, ?_⟩
      · have h := hO3.out
        rw [HF.out] at h
        exact h
      · obtain ⟨_, _, _, _, h⟩ := hO3.out; exact h
end Go.Proofs.Ytedbonnejgpjeaa
