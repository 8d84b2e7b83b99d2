/- Lists of numbers in memory; contracts of the document's Cost and merge. -/
import Derived.Test.YtedbonnejgpjeaaLoften
namespace Go.Proofs.Ytedbonnejgpjeaa
open Go.RowKit

set_option maxHeartbeats 4000000 in
theorem rcost_ok (zs ls : List Int) (s1 s2 : Value) (w : World) (h1 : Zl w s1 zs) (h2 : Zl w s2 ls) (hf : Fits zs ls) :
    Calls Try.prog 14 #[s1, s2] w (Two2 w (costTo (nat zs) (nat ls) zs.length : Int) 0) := by
  obtain ⟨hv, hl, hva⟩ := hf
  have HA := roften_any zs s1 w h1
  have HC := rare_any ls s2 w h2
  rw [decide_eq_true hv] at HA
  rw [decide_eq_true hva] at HC
  obtain ⟨a1, n, c1, rfl, e1, _, _, d1⟩ := h1
  obtain ⟨a2, n2, c2, rfl, e2, _, _, d2⟩ := h2
  have hn2 : n2 = n := by omega
  subst hn2
  have h288 : n2 ≤ 288 := by have := hv.2.1; omega
  have hpos : 0 < n2 := by have := hv.1; omega
  obtain ⟨b1, o1, rfl, lt1, q1⟩ := d1 hpos
  obtain ⟨b2, o2, rfl, lt2, q2⟩ := d2 hpos
  rw [← e1]
  have E1 : Hid (∀ i, i < n2 → w.cell? ⟨b1, o1 + i, none⟩ = some (.int .i64 ((nat zs)[i]?.getD 0 : Nat)) ∧ (nat zs)[i]?.getD 0 ≤ 4294967295) := fun i hi => by
    have := hv.2.2 i (by omega)
    rw [q1 i hi, nat_get]
    exact ⟨by congr 2; omega, by omega⟩
  have E2 : Hid (∀ i, i < n2 → w.cell? ⟨b2, o2 + i, none⟩ = some (.int .i64 ((nat ls)[i]?.getD 0 : Nat)) ∧ (nat ls)[i]?.getD 0 ≤ 15) := fun i hi => by
    have := hva.2.2 i (by omega)
    rw [q2 i hi, nat_get]
    exact ⟨by congr 2; omega, by omega⟩
  have hne : ((n2 : Int) != (n2 : Int)) = false := by simp
  clear hv hl hva e1 e2 d1 d2 q1 q2
  go_enter Try.func14, Try.ntmps14
  go_wp2_with fail
  refine HA.mono ?_
  clear HA
  rintro e w0 ⟨rfl, rfl⟩
  go_wp2_with fail
  refine HC.mono ?_
  clear HC
  rintro e w1 ⟨rfl, rfl⟩
  go_wp2_with fail
  go_loopw [6, 7] (fun s6 s7 wr => ∃ k u q : Nat, k ≤ n2 ∧ s7 = .int .i64 (k : Int) ∧ s6 = .int .i64 (u : Int) ∧ Hid (u = costTo (nat zs) (nat ls) k) ∧ wr = w.drewN q) (fun _ s _ => n2 - (intOf s).toNat)
  case atStart => exact ⟨0, 0, 0, Nat.zero_le _, rfl, rfl, rfl, rfl⟩
  case round =>
    obtain ⟨k, u, q, hk, rfl, rfl, KU, rfl⟩ := hrel
    have hub : u ≤ 18554258714400 := by
      have := costTo_le (nat zs) (nat ls) k fun i hi => ⟨(E1.out i (by omega)).2, (E2.out i (by omega)).2⟩
      rw [← KU.out] at this
      have := Nat.mul_le_mul_right 64424509425 (show k ≤ 288 by omega)
      omega
    by_cases hlt : k < n2
    · obtain ⟨g1, x1⟩ := E1.out k hlt
      obtain ⟨g2, x2⟩ := E2.out k hlt
      have KU2 := costTo_succ (nat zs) (nat ls) k
      rw [← KU.out] at KU2
      obtain ⟨x, hx⟩ : ∃ x, x = (nat zs)[k]?.getD 0 := ⟨_, rfl⟩
      obtain ⟨y, hy⟩ : ∃ y, y = (nat ls)[k]?.getD 0 := ⟨_, rfl⟩
      rw [← hx] at g1 x1 KU2
      rw [← hy] at g2 x2 KU2
      obtain ⟨z, hz⟩ : ∃ z, z = x * y := ⟨_, rfl⟩
      rw [← hz] at KU2
      have hzb : z ≤ 64424509425 := by rw [hz]; exact Nat.mul_le_mul x1 x2
      have hm := mul_is x y z hz
      have K3 : Hid (u + z = costTo (nat zs) (nat ls) (k + 1)) := KU2.symm
      clear KU2 hx hy hz KU x1 x2
      go_wp2_with fail
      go_quiet (fail)
      go_wp2_with fail
      go_roundw
      case rel => exact ⟨k + 1, u + z, _, by omega, by go_num, by first | rfl | go_num, K3, rfl⟩
      case measure => simp [intOf]; omega
    · obtain rfl : k = n2 := by omega
      go_wp2
      go_ret2
      exact ⟨by rw [← KU.out]; rfl, below_drewN (Below.refl _ _) q⟩

set_option maxHeartbeats 4000000 in
theorem rcost_bad (zs ls : List Int) (s1 s2 : Value) (w : World) (h1 : Zl w s1 zs) (h2 : Zl w s2 ls) (hf : ¬ Fits zs ls) :
    Calls Try.prog 14 #[s1, s2] w (Two2 w 0 2) := by
  have HA := roften_any zs s1 w h1
  have HC := rare_any ls s2 w h2
  by_cases hv : Nums zs
  · rw [decide_eq_true hv] at HA
    by_cases hva : Valid ls
    · rw [decide_eq_true hva] at HC
      have hl : ls.length ≠ zs.length := fun h => hf ⟨hv, h, hva⟩
      obtain ⟨a1, n1, c1, rfl, e1, _⟩ := h1
      obtain ⟨a2, n2, c2, rfl, e2, _⟩ := h2
      have hh : n1 ≠ n2 := fun e => hl (by rw [← e1, ← e2, e])
      have hne : ((n1 : Int) != (n2 : Int)) = true := by rw [bne_iff_ne]; exact fun e => hh (Int.ofNat.inj e)
      clear hv hl hva hf e1 e2 hh
      go_enter Try.func14, Try.ntmps14
      go_wp2_with fail
      refine HA.mono ?_
      clear HA
      rintro e w0 ⟨rfl, rfl⟩
      go_wp2_with fail
      refine HC.mono ?_
      clear HC
      rintro e w1 ⟨rfl, rfl⟩
      go_wp2
      go_ret2
      exact ⟨rfl, Below.refl _ _⟩
    · rw [decide_eq_false hva] at HC
      obtain ⟨a1, n1, c1, rfl, e1, _⟩ := h1
      obtain ⟨a2, n2, c2, rfl, e2, _⟩ := h2
      clear hv hva hf e1 e2
      go_enter Try.func14, Try.ntmps14
      go_wp2_with fail
      refine HA.mono ?_
      clear HA
      rintro e w0 ⟨rfl, rfl⟩
      go_wp2_with fail
      refine HC.mono ?_
      clear HC
      rintro e w1 ⟨rfl, rfl⟩
      go_wp2
      go_ret2
      exact ⟨rfl, Below.refl _ _⟩
  · rw [decide_eq_false hv] at HA
    obtain ⟨a1, n1, c1, rfl, e1, _⟩ := h1
    obtain ⟨a2, n2, c2, rfl, e2, _⟩ := h2
    clear hv hf e1 e2 HC
    go_enter Try.func14, Try.ntmps14
    go_wp2_with fail
    refine HA.mono ?_
    clear HA
    rintro e w0 ⟨rfl, rfl⟩
    go_wp2
    go_ret2
    exact ⟨rfl, Below.refl _ _⟩

/-- The slice s reads the numbers xs. -/
def Nl (w : World) (s : Value) (xs : List Nat) : Prop :=
  ∃ a len cap, s = .slice a len cap ∧ len = xs.length ∧ len ≤ cap ∧ len ≤ 1024 ∧ (a = none → len = 0 ∧ cap = 0) ∧
    (0 < len → ∃ b off, a = some ⟨b, off, none⟩ ∧ b < w.heap.size ∧ ∀ (i x : Nat), xs[i]? = some x → w.cell? ⟨b, off + i, none⟩ = some (.int .i64 (x : Int)))

theorem Nl.later {w w' : World} {s : Value} {xs : List Nat} (h : Nl w s xs) (hb : Below w.heap.size w w') : Nl w' s xs := by
  obtain ⟨a, len, cap, rfl, h1, h2, h3, h4, h5⟩ := h
  refine ⟨a, len, cap, rfl, h1, h2, h3, h4, fun hl => ?_⟩
  obtain ⟨b, off, rfl, hlt, hc⟩ := h5 hl
  exact ⟨b, off, rfl, Nat.lt_of_lt_of_le hlt hb.size, fun i x hi => by rw [hb.cell (p := ⟨b, off + i, none⟩) hlt]; exact hc i x hi⟩
theorem Nl.shape {w : World} {s : Value} {xs : List Nat} (h : Nl w s xs) : ∃ a cap, s = .slice a xs.length cap ∧ xs.length ≤ cap ∧ xs.length ≤ 1024 := by
  obtain ⟨a, len, cap, rfl, rfl, h2, h3, _⟩ := h
  exact ⟨a, cap, rfl, h2, h3⟩
theorem Nl.nil (w : World) : Nl w (.slice none 0 0) [] := ⟨none, 0, 0, rfl, rfl, by omega, by omega, fun _ => ⟨rfl, rfl⟩, fun h => absurd h (by omega)⟩
theorem Nl.head {w : World} {a : Option Addr} {n cap : Nat} {x : Nat} {xs : List Nat} (h : Nl w (.slice a n cap) (x :: xs)) :
    ∃ b off, a = some ⟨b, off, none⟩ ∧ b < w.heap.size ∧ w.cell? ⟨b, off, none⟩ = some (.int .i64 (x : Int)) ∧ n ≤ cap ∧ (cap = 1 → Nl w (.slice (some ⟨b, off, none⟩) xs.length (cap - 1)) xs) ∧ Nl w (.slice (some ⟨b, off + 1, none⟩) xs.length (cap - 1)) xs := by
  obtain ⟨a', len, cap', e, h1, h2, h3, h4, h5⟩ := h
  cases e
  simp only [List.length_cons] at h1
  obtain ⟨b, off, rfl, hlt, hc⟩ := h5 (by omega)
  refine ⟨b, off, rfl, hlt, hc 0 x rfl, h2, fun e => ⟨_, xs.length, cap - 1, rfl, rfl, by omega, by omega, fun h => by simp at h, fun h0 => by omega⟩, _, xs.length, cap - 1, rfl, rfl, by omega, by omega, fun h => by simp at h, fun _ => ⟨b, off + 1, rfl, hlt, fun i u hi => ?_⟩⟩
  have := hc (i + 1) u (by rw [List.getElem?_cons_succ]; exact hi)
  rwa [show off + (i + 1) = off + 1 + i by omega] at this

/-- A list of numbers of the call's own. -/
def Io (base : Nat) (wr : World) (v : Value) (xs : List Nat) : Prop := wr.ownsRow base 3 1 v xs.length (vi xs)
theorem Io.nl {base : Nat} {wr : World} {v : Value} {xs : List Nat} (h : Io base wr v xs) (hl : xs.length ≤ 1024) : Nl wr v xs := by
  have h' : wr.ownsRow base 3 1 v xs.length (vi xs) := h
  rcases h'.2 with ⟨rfl, h0⟩ | ⟨g, cap, cur, rfl, _, hg, hle, _⟩
  · rw [List.eq_nil_of_length_eq_zero h0]; exact Nl.nil _
  · refine ⟨_, _, _, rfl, rfl, hle, by omega, fun h => by simp at h, fun _ => ⟨g, 0, rfl, lt_of_block hg, fun i x hi => ?_⟩⟩
    have hil := (List.getElem?_eq_some_iff.1 hi).1
    rw [Nat.zero_add, h'.cellAt i (by omega)]
    simp [vi, hi]
theorem Io.nil (base : Nat) (w : World) : Io base w (.slice none 0 0) [] := World.ownsRow_nil _ _ _ _
theorem Io.slice {base : Nat} {w : World} {v : Value} {xs : List Nat} (h : Io base w v xs) : ∃ a cap, v = .slice a xs.length cap := own_slice h
theorem Io.stays {base : Nat} {w w' : World} {v : Value} {xs : List Nat} (h : Io base w v xs) (hb : Below w.heap.size w w') : Io base w' v xs := own_stays h hb

/-- One more number. -/
theorem Io.more {w wr : World} {v : Value} {xs : List Nat} (h : Io w.heap.size wr v xs) (hb : Below w.heap.size w wr) (x : Nat) (hl : xs.length ≤ 5000) :
    ∃ g' cap' w2, (Builtin.append_ #[22, 22] 22 #[v, .slice (some ⟨wr.heap.size, 0, none⟩) 1 1]).run Try.prog (wr.alloc (.cells #[.int .i64 (x : Int)] 3)) = .ok (.slice (some ⟨g', 0, none⟩) (xs.length + 1) cap') w2 ∧
      Hid (Io w.heap.size w2 (.slice (some ⟨g', 0, none⟩) (xs.length + 1) cap') (xs ++ [x])) ∧ Below w.heap.size w w2 := by
  have h' : wr.ownsRow w.heap.size 3 1 v xs.length (vi xs) := h
  have hsz := hb.size
  have k2 := h'.alloc (.cells #[.int .i64 (x : Int)] 3)
  have hc := (Has.new wr (.cells #[.int .i64 (x : Int)] 3)).one.1
  obtain ⟨v', w2, hrun, ho, hg⟩ := run_app1 22 3 (.int .i64 0) Try.underlying22 Try.infoInt rfl 22 k2 wr.heap.size _ rfl hc (by omega) (by simp; omega)
  obtain ⟨g', cap', rfl⟩ := ownsRow_succ ho
  refine ⟨g', cap', w2, hrun, ?_, (hb.trans ((below1 wr _).mono hsz)).grown hg (by simp; omega) (fun q e => (World.ownsRow.lt h' q e).1)⟩
  show w2.ownsRow _ _ _ _ (xs ++ [x]).length (vi (xs ++ [x]))
  rw [vi_snoc, List.length_append]; exact ho

set_option maxHeartbeats 4000000 in
theorem rmerge_any (s1 s2 : Value) (xs ys : List Nat) (w : World) (h1 : Nl w s1 xs) (h2 : Nl w s2 ys) :
    Calls Try.prog 28 #[s1, s2] w fun e w' => ∃ v, e = .returned v ∧ Io w.heap.size w' v (Lm.mrg (fun x => x) xs ys) ∧ Below w.heap.size w w' := by
  obtain ⟨a1, c1, rfl, _, l1⟩ := h1.shape
  obtain ⟨a2, c2, rfl, _, l2⟩ := h2.shape
  obtain ⟨zz, hzz⟩ : ∃ zz, zz = Lm.mrg (fun x => x) xs ys := ⟨_, rfl⟩
  have hzl : zz.length = xs.length + ys.length := by rw [hzz, Lm.mrg_length]
  rw [← hzz]
  obtain ⟨n1, hn1⟩ : ∃ n1, n1 = xs.length := ⟨_, rfl⟩
  obtain ⟨n2, hn2⟩ : ∃ n2, n2 = ys.length := ⟨_, rfl⟩
  rw [← hn1] at h1 l1 hzl ⊢
  rw [← hn2] at h2 l2 hzl ⊢
  have H1 := Lib.hid h1
  have H2 := Lib.hid h2
  have N1 := Lib.hid hn1
  have N2 := Lib.hid hn2
  have HZ := Lib.hid hzz
  have HZL := Lib.hid hzl
  clear h1 h2 hn1 hn2 hzz hzl
  go_enter Try.func28, Try.ntmps28
  go_wp2
  go_loopw [0, 1, 5] (fun s0 s1 s5 wr => ∃ (u1 u2 u3 : Option Addr) (m1 d1 m2 d2 n cap : Nat) (xs' ys' zs : List Nat), s0 = .slice u1 m1 d1 ∧ s1 = .slice u2 m2 d2 ∧ s5 = .slice u3 n cap ∧ m1 ≤ 1024 ∧ m2 ≤ 1024 ∧ Hid (m1 = xs'.length) ∧ Hid (m2 = ys'.length) ∧ Hid (n = zs.length) ∧
      Hid (Nl w (.slice u1 m1 d1) xs') ∧ Hid (Nl w (.slice u2 m2 d2) ys') ∧ Hid (Io w.heap.size wr (.slice u3 n cap) zs) ∧ Hid (Below w.heap.size w wr) ∧ Hid (Unit → zs ++ Lm.mrg (fun x => x) xs' ys' = zz))
    (fun s t _ _ => (match s with | .slice _ m _ => m | _ => 0) + (match t with | .slice _ m _ => m | _ => 0))
  case atStart => exact ⟨_, _, _, _, _, _, _, _, _, xs, ys, [], rfl, rfl, rfl, l1, l2, N1, N2, rfl, H1, H2, Io.nil _ _, Below.refl _ _, fun _ => HZ.out.symm⟩
  case round =>
    clear N1 N2 H1 H2
    obtain ⟨u1, u2, u3, m1, d1, m2, d2, n, cap, xs', ys', zs, rfl, rfl, rfl, b1, b2, N1, N2, N3, H1, H2, HO, HB, HE⟩ := hrel
    have hzn : zs.length ≤ 2048 := by
      have h1 := congrArg List.length (HE.out ())
      rw [List.length_append, HZL.out] at h1; omega
    by_cases h1 : 0 < m1
    · by_cases h2 : 0 < m2
      · have p1 : decide (0 < (m1 : Int)) = true := by simp; omega
        have p2 : decide (0 < (m2 : Int)) = true := by simp; omega
        have q2 : ((m2 : Int) == 0) = false := by rw [beq_eq_false_iff_ne]; omega
        obtain ⟨x, xs2, rfl⟩ : ∃ x xs2, xs' = x :: xs2 := by
          cases xs' with
          | nil => have := N1.out; simp at this; omega
          | cons x xs2 => exact ⟨x, xs2, rfl⟩
        obtain ⟨e1, o1, rfl, lt1, cx, hd1, hx0, hx1⟩ := H1.out.head
        have M1 : Hid (m1 - 1 = xs2.length) := by have := N1.out; simp at this; show _ = _; omega
        rw [← M1.out] at hx0 hx1
        have X0 := Lib.hid hx0
        have X1 := Lib.hid hx1
        have gx := (HB.out.cell (p := ⟨e1, o1, none⟩) lt1).trans cx
        clear cx hx0 hx1
        obtain ⟨y, ys2, rfl⟩ : ∃ y ys2, ys' = y :: ys2 := by
          cases ys' with
          | nil => have := N2.out; simp at this; omega
          | cons y ys2 => exact ⟨y, ys2, rfl⟩
        obtain ⟨e2, o2, rfl, lt2, cy, hd2, hy0, hy1⟩ := H2.out.head
        have M2 : Hid (m2 - 1 = ys2.length) := by have := N2.out; simp at this; show _ = _; omega
        rw [← M2.out] at hy0 hy1
        have Y0 := Lib.hid hy0
        have Y1 := Lib.hid hy1
        have gy := (HB.out.cell (p := ⟨e2, o2, none⟩) lt2).trans cy
        clear cy hy0 hy1
        by_cases hlt : y < x
        · have hd : decide ((x : Int) ≤ (y : Int)) = false := by simp; omega
          have hd' : decide (x ≤ y) = false := by simp; omega
          have HE2 : Hid (Unit → (zs ++ [y]) ++ Lm.mrg (fun x => x) (x :: xs2) ys2 = zz) := fun _ => by
            rw [← HE.out (), Lm.mrg_cons, if_pos hlt, List.append_assoc]; rfl
          clear HE
          go_wp2_with fail
          go_quiet (fail)
          obtain ⟨g', cap', w2, hrun, hO, hB2⟩ := Io.more (wr := wr.drewN nq) (HO.out.stays (below_drewN (Below.refl _ _) nq)) (below_drewN HB.out nq) y (by omega)
          rw [← N3.out] at hrun hO
          have HRUN := Lib.hid hrun
          have HB2 := Lib.hid hB2
          have NN : Hid (n + 1 = (zs ++ [y]).length) := by show _ = _; rw [List.length_append, ← N3.out]; rfl
          have f1 : (1 : Int) ≤ (m2 : Int) := by omega
          have f2 : (m2 : Int) ≤ (d2 : Int) := by omega
          clear hrun hB2 HO HB N3
          by_cases g3 : d2 = 1
          · have G3 := Lib.hid g3
            go_wp2_with (at_builtin; refine wpList_append_known rfl (.tmp 39) (.tmp 43) 22 rfl _ _ _ _ rfl rfl HRUN.out ?_)
            go_roundw
            case rel => exact ⟨_, _, _, _, _, _, _, _, _, (x :: xs2), ys2, zs ++ [y], rfl, rfl, rfl, b1, by omega, N1, M2, NN, H1, (by have h := Y0.out G3.out; rw [G3.out] at h; exact h), hO, HB2, HE2⟩
            case measure => simp; omega
          · have g4 : ¬ d2 - 1 = 0 := by omega
            go_wp2_with (at_builtin; refine wpList_append_known rfl (.tmp 39) (.tmp 43) 22 rfl _ _ _ _ rfl rfl HRUN.out ?_)
            go_roundw
            case rel => exact ⟨_, _, _, _, _, _, _, _, _, (x :: xs2), ys2, zs ++ [y], rfl, rfl, rfl, b1, by omega, N1, M2, NN, H1, Y1, hO, HB2, HE2⟩
            case measure => simp; omega
        · have hd : decide ((x : Int) ≤ (y : Int)) = true := by simp; omega
          have hd' : decide (x ≤ y) = true := by simp; omega
          have HE2 : Hid (Unit → (zs ++ [x]) ++ Lm.mrg (fun x => x) xs2 (y :: ys2) = zz) := fun _ => by
            rw [← HE.out (), Lm.mrg_cons, if_neg hlt, List.append_assoc]; rfl
          clear HE
          go_wp2_with fail
          go_quiet (fail)
          obtain ⟨g', cap', w2, hrun, hO, hB2⟩ := Io.more (wr := wr.drewN nq) (HO.out.stays (below_drewN (Below.refl _ _) nq)) (below_drewN HB.out nq) x (by omega)
          rw [← N3.out] at hrun hO
          have HRUN := Lib.hid hrun
          have HB2 := Lib.hid hB2
          have NN : Hid (n + 1 = (zs ++ [x]).length) := by show _ = _; rw [List.length_append, ← N3.out]; rfl
          have f1 : (1 : Int) ≤ (m1 : Int) := by omega
          have f2 : (m1 : Int) ≤ (d1 : Int) := by omega
          clear hrun hB2 HO HB N3
          by_cases g3 : d1 = 1
          · have G3 := Lib.hid g3
            go_wp2_with (at_builtin; refine wpList_append_known rfl (.tmp 31) (.tmp 35) 22 rfl _ _ _ _ rfl rfl HRUN.out ?_)
            go_roundw
            case rel => exact ⟨_, _, _, _, _, _, _, _, _, xs2, (y :: ys2), zs ++ [x], rfl, rfl, rfl, by omega, b2, M1, N2, NN, (by have h := X0.out G3.out; rw [G3.out] at h; exact h), H2, hO, HB2, HE2⟩
            case measure => simp; omega
          · have g4 : ¬ d1 - 1 = 0 := by omega
            go_wp2_with (at_builtin; refine wpList_append_known rfl (.tmp 31) (.tmp 35) 22 rfl _ _ _ _ rfl rfl HRUN.out ?_)
            go_roundw
            case rel => exact ⟨_, _, _, _, _, _, _, _, _, xs2, (y :: ys2), zs ++ [x], rfl, rfl, rfl, by omega, b2, M1, N2, NN, X1, H2, hO, HB2, HE2⟩
            case measure => simp; omega
      · have hy0 : ys' = [] := List.eq_nil_of_length_eq_zero (by have := N2.out; omega)
        subst hy0
        obtain rfl : m2 = 0 := by omega
        have p1 : decide (0 < (m1 : Int)) = true := by simp; omega
        obtain ⟨x, xs2, rfl⟩ : ∃ x xs2, xs' = x :: xs2 := by
          cases xs' with
          | nil => have := N1.out; simp at this; omega
          | cons x xs2 => exact ⟨x, xs2, rfl⟩
        obtain ⟨e1, o1, rfl, lt1, cx, hd1, hx0, hx1⟩ := H1.out.head
        have M1 : Hid (m1 - 1 = xs2.length) := by have := N1.out; simp at this; show _ = _; omega
        rw [← M1.out] at hx0 hx1
        have X0 := Lib.hid hx0
        have X1 := Lib.hid hx1
        have gx := (HB.out.cell (p := ⟨e1, o1, none⟩) lt1).trans cx
        clear cx hx0 hx1
        have HE2 : Hid (Unit → (zs ++ [x]) ++ Lm.mrg (fun x => x) xs2 ([] : List Nat) = zz) := fun _ => by
          rw [← HE.out (), Lm.mrg_nil_right, Lm.mrg_nil_right, List.append_assoc]; rfl
        clear HE
        go_wp2_with fail
        go_quiet (fail)
        obtain ⟨g', cap', w2, hrun, hO, hB2⟩ := Io.more (wr := wr.drewN nq) (HO.out.stays (below_drewN (Below.refl _ _) nq)) (below_drewN HB.out nq) x (by omega)
        rw [← N3.out] at hrun hO
        have HRUN := Lib.hid hrun
        have HB2 := Lib.hid hB2
        have NN : Hid (n + 1 = (zs ++ [x]).length) := by show _ = _; rw [List.length_append, ← N3.out]; rfl
        have f1 : (1 : Int) ≤ (m1 : Int) := by omega
        have f2 : (m1 : Int) ≤ (d1 : Int) := by omega
        clear hrun hB2 HO HB N3
        by_cases g3 : d1 = 1
        · have G3 := Lib.hid g3
          go_wp2_with (at_builtin; refine wpList_append_known rfl (.tmp 31) (.tmp 35) 22 rfl _ _ _ _ rfl rfl HRUN.out ?_)
          go_roundw
          case rel => exact ⟨_, _, _, _, _, _, _, _, _, xs2, ([] : List Nat), zs ++ [x], rfl, rfl, rfl, by omega, b2, M1, N2, NN, (by have h := X0.out G3.out; rw [G3.out] at h; exact h), H2, hO, HB2, HE2⟩
          case measure => simp; omega
        · have g4 : ¬ d1 - 1 = 0 := by omega
          go_wp2_with (at_builtin; refine wpList_append_known rfl (.tmp 31) (.tmp 35) 22 rfl _ _ _ _ rfl rfl HRUN.out ?_)
          go_roundw
          case rel => exact ⟨_, _, _, _, _, _, _, _, _, xs2, ([] : List Nat), zs ++ [x], rfl, rfl, rfl, by omega, b2, M1, N2, NN, X1, H2, hO, HB2, HE2⟩
          case measure => simp; omega
    · by_cases h2 : 0 < m2
      · have hx0 : xs' = [] := List.eq_nil_of_length_eq_zero (by have := N1.out; omega)
        subst hx0
        obtain rfl : m1 = 0 := by omega
        have p2 : decide (0 < (m2 : Int)) = true := by simp; omega
        have q2 : ((m2 : Int) == 0) = false := by rw [beq_eq_false_iff_ne]; omega
        obtain ⟨y, ys2, rfl⟩ : ∃ y ys2, ys' = y :: ys2 := by
          cases ys' with
          | nil => have := N2.out; simp at this; omega
          | cons y ys2 => exact ⟨y, ys2, rfl⟩
        obtain ⟨e2, o2, rfl, lt2, cy, hd2, hy0, hy1⟩ := H2.out.head
        have M2 : Hid (m2 - 1 = ys2.length) := by have := N2.out; simp at this; show _ = _; omega
        rw [← M2.out] at hy0 hy1
        have Y0 := Lib.hid hy0
        have Y1 := Lib.hid hy1
        have gy := (HB.out.cell (p := ⟨e2, o2, none⟩) lt2).trans cy
        clear cy hy0 hy1
        have HE2 : Hid (Unit → (zs ++ [y]) ++ Lm.mrg (fun x => x) ([] : List Nat) ys2 = zz) := fun _ => by
          rw [← HE.out (), Lm.mrg_nil_left, Lm.mrg_nil_left, List.append_assoc]; rfl
        clear HE
        go_wp2_with fail
        go_quiet (fail)
        obtain ⟨g', cap', w2, hrun, hO, hB2⟩ := Io.more (wr := wr.drewN nq) (HO.out.stays (below_drewN (Below.refl _ _) nq)) (below_drewN HB.out nq) y (by omega)
        rw [← N3.out] at hrun hO
        have HRUN := Lib.hid hrun
        have HB2 := Lib.hid hB2
        have NN : Hid (n + 1 = (zs ++ [y]).length) := by show _ = _; rw [List.length_append, ← N3.out]; rfl
        have f1 : (1 : Int) ≤ (m2 : Int) := by omega
        have f2 : (m2 : Int) ≤ (d2 : Int) := by omega
        clear hrun hB2 HO HB N3
        by_cases g3 : d2 = 1
        · have G3 := Lib.hid g3
          go_wp2_with (at_builtin; refine wpList_append_known rfl (.tmp 39) (.tmp 43) 22 rfl _ _ _ _ rfl rfl HRUN.out ?_)
          go_roundw
          case rel => exact ⟨_, _, _, _, _, _, _, _, _, ([] : List Nat), ys2, zs ++ [y], rfl, rfl, rfl, b1, by omega, N1, M2, NN, H1, (by have h := Y0.out G3.out; rw [G3.out] at h; exact h), hO, HB2, HE2⟩
          case measure => simp; omega
        · have g4 : ¬ d2 - 1 = 0 := by omega
          go_wp2_with (at_builtin; refine wpList_append_known rfl (.tmp 39) (.tmp 43) 22 rfl _ _ _ _ rfl rfl HRUN.out ?_)
          go_roundw
          case rel => exact ⟨_, _, _, _, _, _, _, _, _, ([] : List Nat), ys2, zs ++ [y], rfl, rfl, rfl, b1, by omega, N1, M2, NN, H1, Y1, hO, HB2, HE2⟩
          case measure => simp; omega
      · have hx0 : xs' = [] := List.eq_nil_of_length_eq_zero (by have := N1.out; omega)
        have hy0 : ys' = [] := List.eq_nil_of_length_eq_zero (by have := N2.out; omega)
        subst hx0 hy0
        obtain rfl : m1 = 0 := by omega
        obtain rfl : m2 = 0 := by omega
        have HF : Hid (zs = zz) := by show _ = _; rw [← HE.out (), Lm.mrg_nil_left, List.append_nil]
        clear HE
        go_wp2
        go_ret
        exact ⟨_, rfl, by rw [← HF.out]; exact HO.out, HB.out⟩
end Go.Proofs.Ytedbonnejgpjeaa
