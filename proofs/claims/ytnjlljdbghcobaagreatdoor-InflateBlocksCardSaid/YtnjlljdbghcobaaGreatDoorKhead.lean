/- Contract of header's reader: header. -/
import Derived.Test.YtnjlljdbghcobaaGreatDoorKheadp
import Derived.Test.YtnjlljdbghcobaaGreatDoorHref
import Derived.Test.YtnjlljdbghcobaaGreatDoorKrun
import Derived.Test.YtnjlljdbghcobaaGreatDoorKclone

namespace Go.Proofs.YtnjlljdbghcobaaGreatDoor
set_option maxRecDepth 100000
open Go.RowKit

/-- What reading a header leaves. -/
def HeadPost (R : Nat) (w : World) (s : Value) (N : Nat) (r : List Nat × List Nat × Nat × Int) (e : Ending) (w' : World) : Prop :=
  Only R w w' ∧ ((r.2.2.2 ≠ 0 ∧ e = .panicked (Pan r.2.2.2)) ∨ (r.2.2.2 = 0 ∧ ∃ s1 s2, e = .returned (.tuple #[s1, s2]) ∧ Own w.heap.size w' s1 r.1 ∧ Own w.heap.size w' s2 r.2.1 ∧ Has w' R (rdr s N r.2.2.1)))
theorem HeadPost.bad {R : Nat} {w w' : World} {s : Value} {N : Nat} {c : Int} (h : Only R w w') (hc : c ≠ 0) : HeadPost R w s N ([], [], 0, c) (.panicked (Pan c)) w' := ⟨h, Or.inl ⟨hc, rfl⟩⟩

set_option maxRecDepth 100000 in
set_option maxHeartbeats 4000000 in
theorem header_e1 (R : Nat) (s : Value) (l : List Bool) (N p : Nat) (w : World) (hx : Has w R (rdr s N p)) (hs : Sl w s (Bs.pack l)) (hl : Hid (N = l.length)) (hN : N ≤ 2251799813685248) (hp : p ≤ N) (h1 : N < p + 10) :
    Calls Tryz.prog 196 #[.pointer (some ⟨R, 0, none⟩)] w (HeadPost R w s N ([], [], 0, 4)) := by
  by_cases h5 : N < p + 5
  · have HS := Lib.hid (number_short R s l N p 5 _ hx hs hl hN (by omega) hp h5)
    clear hx hs
    go_enter Tryz.func196, Tryz.ntmps196
    go_wp2_with fail
    refine HS.out.mono ?_
    rintro e w1 ⟨rfl, ho⟩
    exact ⟨rfl, HeadPost.bad ho (by decide)⟩
  · have HS := Lib.hid (number_ok R s l N p 5 _ hx hs hl hN (by omega) (by omega))
    have HX := Lib.hid hx
    have HSL := Lib.hid hs
    clear hx hs
    go_enter Tryz.func196, Tryz.ntmps196
    go_wp2_with fail
    refine HS.out.mono ?_
    clear HS
    rintro e w1 ⟨rfl, hx1, ho⟩
    have HX1 := Lib.hid hx1
    have HS1 := Lib.hid (HSL.out.rdr HX.out ho)
    have HO1 := Lib.hid ho
    clear hx1 ho HX HSL
    go_wp2_with fail
    refine (number_short R s l N (p + 5) 5 w1 HX1.out HS1.out hl hN (by omega) (by omega) (by omega)).mono ?_
    rintro e w2 ⟨rfl, ho2⟩
    exact ⟨rfl, HeadPost.bad (HO1.out.trans ho2) (by decide)⟩


/-- The call's numbers as a list's. -/
theorem zl_nums {w : World} {g n cap : Nat} {xs : List Nat} (h : Has w g (nums xs)) (hn : n = xs.length) (h2 : n ≤ 17592186044416) : Zl w (.slice (some ⟨g, 0, none⟩) n cap) (Hd.zz xs) := by
  refine ⟨_, n, cap, rfl, by rw [Hd.zz_length]; exact hn, h2, fun h => by simp at h, fun _ => ⟨g, 0, rfl, h.lt, fun i hi => ?_⟩⟩
  rw [Nat.zero_add, nums_cell h i (by omega), Hd.zz_get]

set_option maxRecDepth 100000 in
set_option maxHeartbeats 4000000 in
theorem header_e3 (R : Nat) (s : Value) (l : List Bool) (N p : Nat) (w : World) (hx : Has w R (rdr s N p)) (hs : Sl w s (Bs.pack l)) (hgl : Glob w) (hl : Hid (N = l.length)) (hN : N ≤ 2251799813685248) (hp : p + 10 ≤ N) (h3 : 286 < Hd.num l p 5 + 257 ∨ 30 < Hd.num l (p + 5) 5 + 1) :
    Calls Tryz.prog 196 #[.pointer (some ⟨R, 0, none⟩)] w (HeadPost R w s N ([], [], 0, 3)) := by
  obtain ⟨sa, sl, sc, rfl, hsl⟩ := hs.shape
  have hne := hgl.ne hx ⟨_, _, _, rfl⟩
  have HS := Lib.hid (number_ok R _ l N p 5 _ hx hs hl hN (by omega) (by omega))
  have hx5 := Hd.num_lt l p 5
  have hy5 := Hd.num_lt l (p + 5) 5
  obtain ⟨x, hxx⟩ : ∃ x, x = Hd.num l p 5 := ⟨_, rfl⟩
  obtain ⟨y, hyy⟩ : ∃ y, y = Hd.num l (p + 5) 5 := ⟨_, rfl⟩
  rw [← hxx] at HS hx5
  rw [← hyy] at hy5
  have HY := Lib.hid hyy
  have HXX := Lib.hid hxx
  rw [← hxx, ← hyy] at h3
  by_cases h6 : 286 < x + 257
  · have d1 : decide ((286 : Int) < (x : Int) + 257) = true := decide_eq_true (by omega)
    have HX := Lib.hid hx
    have HSL := Lib.hid hs
    have HGL := Lib.hid hgl
    clear hx hs hgl hsl hxx hyy
    go_enter Tryz.func196, Tryz.ntmps196
    go_wp2_with fail
    refine HS.out.mono ?_
    clear HS
    rintro e w1 ⟨rfl, hx1, ho⟩
    have HX1 := Lib.hid hx1
    have HS1 := Lib.hid (HSL.out.rdr HX.out ho)
    have HO1 := Lib.hid ho
    clear hx1 ho
    go_wp2_with fail
    refine (number_ok R _ l N (p + 5) 5 w1 HX1.out HS1.out hl hN (by omega) (by omega)).mono ?_
    rintro e w2 ⟨rfl, hx2, ho2⟩
    rw [← HY.out]
    have HX2 := Lib.hid hx2
    have HS2 := Lib.hid (HS1.out.rdr HX1.out ho2)
    have HO2 := Lib.hid (HO1.out.trans ho2)
    have HG2 := Lib.hid (HGL.out.only hne HO2.out)
    clear hx2 ho2 HX1 HS1 HO1 HX HSL HGL
    go_wp2_with fail
    exact ⟨rfl, HeadPost.bad HO2.out (by decide)⟩
  · have d1 : decide ((286 : Int) < (x : Int) + 257) = false := decide_eq_false (by omega)
    have d2 : decide ((30 : Int) < (y : Int) + 1) = true := decide_eq_true (by omega)
    have HX := Lib.hid hx
    have HSL := Lib.hid hs
    have HGL := Lib.hid hgl
    clear hx hs hgl hsl hxx hyy
    go_enter Tryz.func196, Tryz.ntmps196
    go_wp2_with fail
    refine HS.out.mono ?_
    clear HS
    rintro e w1 ⟨rfl, hx1, ho⟩
    have HX1 := Lib.hid hx1
    have HS1 := Lib.hid (HSL.out.rdr HX.out ho)
    have HO1 := Lib.hid ho
    clear hx1 ho
    go_wp2_with fail
    refine (number_ok R _ l N (p + 5) 5 w1 HX1.out HS1.out hl hN (by omega) (by omega)).mono ?_
    rintro e w2 ⟨rfl, hx2, ho2⟩
    rw [← HY.out]
    have HX2 := Lib.hid hx2
    have HS2 := Lib.hid (HS1.out.rdr HX1.out ho2)
    have HO2 := Lib.hid (HO1.out.trans ho2)
    have HG2 := Lib.hid (HGL.out.only hne HO2.out)
    clear hx2 ho2 HX1 HS1 HO1 HX HSL HGL
    go_wp2_with fail
    exact ⟨rfl, HeadPost.bad HO2.out (by decide)⟩

set_option maxRecDepth 100000 in
set_option maxHeartbeats 4000000 in
theorem header_e4 (R : Nat) (s : Value) (l : List Bool) (N p : Nat) (w : World) (hx : Has w R (rdr s N p)) (hs : Sl w s (Bs.pack l)) (hgl : Glob w) (hl : Hid (N = l.length)) (hN : N ≤ 2251799813685248) (hp : p + 10 ≤ N) (h3 : ¬ (286 < Hd.num l p 5 + 257 ∨ 30 < Hd.num l (p + 5) 5 + 1)) (h4 : N < p + 14) :
    Calls Tryz.prog 196 #[.pointer (some ⟨R, 0, none⟩)] w (HeadPost R w s N ([], [], 0, 4)) := by
  obtain ⟨sa, sl, sc, rfl, hsl⟩ := hs.shape
  have hne := hgl.ne hx ⟨_, _, _, rfl⟩
  have HS := Lib.hid (number_ok R _ l N p 5 _ hx hs hl hN (by omega) (by omega))
  have hx5 := Hd.num_lt l p 5
  have hy5 := Hd.num_lt l (p + 5) 5
  obtain ⟨x, hxx⟩ : ∃ x, x = Hd.num l p 5 := ⟨_, rfl⟩
  obtain ⟨y, hyy⟩ : ∃ y, y = Hd.num l (p + 5) 5 := ⟨_, rfl⟩
  rw [← hxx] at HS hx5
  rw [← hyy] at hy5
  have HY := Lib.hid hyy
  have HXX := Lib.hid hxx
  rw [← hxx, ← hyy] at h3
  have d1 : decide ((286 : Int) < (x : Int) + 257) = false := decide_eq_false (by omega)
  have d2 : decide ((30 : Int) < (y : Int) + 1) = false := decide_eq_false (by omega)
  have HX := Lib.hid hx
  have HSL := Lib.hid hs
  have HGL := Lib.hid hgl
  clear hx hs hgl hsl hxx hyy
  go_enter Tryz.func196, Tryz.ntmps196
  go_wp2_with fail
  refine HS.out.mono ?_
  clear HS
  rintro e w1 ⟨rfl, hx1, ho⟩
  have HX1 := Lib.hid hx1
  have HS1 := Lib.hid (HSL.out.rdr HX.out ho)
  have HO1 := Lib.hid ho
  clear hx1 ho
  go_wp2_with fail
  refine (number_ok R _ l N (p + 5) 5 w1 HX1.out HS1.out hl hN (by omega) (by omega)).mono ?_
  rintro e w2 ⟨rfl, hx2, ho2⟩
  rw [← HY.out]
  have HX2 := Lib.hid hx2
  have HS2 := Lib.hid (HS1.out.rdr HX1.out ho2)
  have HO2 := Lib.hid (HO1.out.trans ho2)
  have HG2 := Lib.hid (HGL.out.only hne HO2.out)
  clear hx2 ho2 HX1 HS1 HO1 HX HSL HGL
  go_wp2_with fail
  refine (code_short R _ l N (p + 10) w2 HX2.out HS2.out hl hN hp (by omega)).mono ?_
  rintro e w3 ⟨rfl, ho3⟩
  exact ⟨rfl, HeadPost.bad (HO2.out.trans ho3) (by decide)⟩

set_option maxRecDepth 100000 in
set_option maxHeartbeats 4000000 in
theorem header_e5 (R : Nat) (s : Value) (l : List Bool) (N p : Nat) (w : World) (hx : Has w R (rdr s N p)) (hs : Sl w s (Bs.pack l)) (hgl : Glob w) (hl : Hid (N = l.length)) (hN : N ≤ 2251799813685248) (hp : p + 14 ≤ N) (h3 : ¬ (286 < Hd.num l p 5 + 257 ∨ 30 < Hd.num l (p + 5) 5 + 1)) (h5 : N < p + 14 + 3 * (Hd.num l (p + 10) 4 + 4)) :
    Calls Tryz.prog 196 #[.pointer (some ⟨R, 0, none⟩)] w (HeadPost R w s N ([], [], 0, 4)) := by
  obtain ⟨sa, sl, sc, rfl, hsl⟩ := hs.shape
  have hne := hgl.ne hx ⟨_, _, _, rfl⟩
  have HS := Lib.hid (number_ok R _ l N p 5 _ hx hs hl hN (by omega) (by omega))
  have hx5 := Hd.num_lt l p 5
  have hy5 := Hd.num_lt l (p + 5) 5
  obtain ⟨x, hxx⟩ : ∃ x, x = Hd.num l p 5 := ⟨_, rfl⟩
  obtain ⟨y, hyy⟩ : ∃ y, y = Hd.num l (p + 5) 5 := ⟨_, rfl⟩
  rw [← hxx] at HS hx5
  rw [← hyy] at hy5
  have HY := Lib.hid hyy
  have HXX := Lib.hid hxx
  rw [← hxx, ← hyy] at h3
  have d1 : decide ((286 : Int) < (x : Int) + 257) = false := decide_eq_false (by omega)
  have d2 : decide ((30 : Int) < (y : Int) + 1) = false := decide_eq_false (by omega)
  obtain ⟨c, hc⟩ : ∃ c, c = Hd.num l (p + 10) 4 + 4 := ⟨_, rfl⟩
  have hc19 : c ≤ 19 := by have := Hd.num_lt l (p + 10) 4; omega
  rw [← hc] at h5
  have HC := Lib.hid hc
  clear hc
  have HX := Lib.hid hx
  have HSL := Lib.hid hs
  have HGL := Lib.hid hgl
  clear hx hs hgl hsl hxx hyy
  go_enter Tryz.func196, Tryz.ntmps196
  go_wp2_with fail
  refine HS.out.mono ?_
  clear HS
  rintro e w1 ⟨rfl, hx1, ho⟩
  have HX1 := Lib.hid hx1
  have HS1 := Lib.hid (HSL.out.rdr HX.out ho)
  have HO1 := Lib.hid ho
  clear hx1 ho
  go_wp2_with fail
  refine (number_ok R _ l N (p + 5) 5 w1 HX1.out HS1.out hl hN (by omega) (by omega)).mono ?_
  rintro e w2 ⟨rfl, hx2, ho2⟩
  rw [← HY.out]
  have HX2 := Lib.hid hx2
  have HS2 := Lib.hid (HS1.out.rdr HX1.out ho2)
  have HO2 := Lib.hid (HO1.out.trans ho2)
  have HG2 := Lib.hid (HGL.out.only hne HO2.out)
  clear hx2 ho2 HX1 HS1 HO1 HX HSL HGL
  go_wp2_with fail
  refine (code_any R _ l N (p + 10) w2 HX2.out HS2.out HG2.out hl hN (by omega)).mono ?_
  intro e w3 hcp
  obtain ⟨ho3, hcp⟩ := hcp
  rw [show p + 10 + 4 = p + 14 from rfl, ← HC.out] at hcp
  rcases hcp with ⟨h, _⟩ | ⟨_, rfl⟩
  · omega
  · exact ⟨rfl, HeadPost.bad (HO2.out.trans ho3) (by decide)⟩

set_option maxRecDepth 100000 in
set_option maxHeartbeats 4000000 in
theorem header_e6 (R : Nat) (s : Value) (l : List Bool) (N p : Nat) (w : World) (hx : Has w R (rdr s N p)) (hs : Sl w s (Bs.pack l)) (hgl : Glob w) (hl : Hid (N = l.length)) (hN : N ≤ 2251799813685248) (hp : p + 14 ≤ N) (h3 : ¬ (286 < Hd.num l p 5 + 257 ∨ 30 < Hd.num l (p + 5) 5 + 1)) (h5 : p + 14 + 3 * (Hd.num l (p + 10) 4 + 4) ≤ N) (h6 : newE (Hd.zz (Hd.cl l (p + 14) (Hd.num l (p + 10) 4 + 4))) ≠ 0) :
    Calls Tryz.prog 196 #[.pointer (some ⟨R, 0, none⟩)] w (HeadPost R w s N ([], [], 0, newE (Hd.zz (Hd.cl l (p + 14) (Hd.num l (p + 10) 4 + 4))))) := by
  obtain ⟨sa, sl, sc, rfl, hsl⟩ := hs.shape
  have hne := hgl.ne hx ⟨_, _, _, rfl⟩
  have HS := Lib.hid (number_ok R _ l N p 5 _ hx hs hl hN (by omega) (by omega))
  have hx5 := Hd.num_lt l p 5
  have hy5 := Hd.num_lt l (p + 5) 5
  obtain ⟨x, hxx⟩ : ∃ x, x = Hd.num l p 5 := ⟨_, rfl⟩
  obtain ⟨y, hyy⟩ : ∃ y, y = Hd.num l (p + 5) 5 := ⟨_, rfl⟩
  rw [← hxx] at HS hx5
  rw [← hyy] at hy5
  have HY := Lib.hid hyy
  have HXX := Lib.hid hxx
  rw [← hxx, ← hyy] at h3
  have d1 : decide ((286 : Int) < (x : Int) + 257) = false := decide_eq_false (by omega)
  have d2 : decide ((30 : Int) < (y : Int) + 1) = false := decide_eq_false (by omega)
  obtain ⟨c, hc⟩ : ∃ c, c = Hd.num l (p + 10) 4 + 4 := ⟨_, rfl⟩
  have hc19 : c ≤ 19 := by have := Hd.num_lt l (p + 10) 4; omega
  rw [← hc] at h5
  have HC := Lib.hid hc
  clear hc
  obtain ⟨ls, hls⟩ : ∃ ls, ls = Hd.cl l (p + 14) c := ⟨_, rfl⟩
  have hl19 : ls.length = 19 := by rw [hls]; exact Hd.cl_length _ _ _
  rw [← HC.out, ← hls] at h6
  have HLS := Lib.hid hls
  have HL19 := Lib.hid hl19
  clear hls hl19
  rw [← HC.out, ← HLS.out]
  have HNEW : Hid (∀ s3 w3, Zl w3 s3 (Hd.zz ls) → Calls Tryz.prog 158 #[s3] w3 (NoTab w3 (newE (Hd.zz ls)))) := fun s3 w3 h => new_no _ s3 w3 h h6
  obtain ⟨c6, hc6⟩ : ∃ c6, c6 = newE (Hd.zz ls) := ⟨_, rfl⟩
  rw [← hc6] at HNEW h6 ⊢
  clear hc6
  have HX := Lib.hid hx
  have HSL := Lib.hid hs
  have HGL := Lib.hid hgl
  clear hx hs hgl hsl hxx hyy
  go_enter Tryz.func196, Tryz.ntmps196
  go_wp2_with fail
  refine HS.out.mono ?_
  clear HS
  rintro e w1 ⟨rfl, hx1, ho⟩
  have HX1 := Lib.hid hx1
  have HS1 := Lib.hid (HSL.out.rdr HX.out ho)
  have HO1 := Lib.hid ho
  clear hx1 ho
  go_wp2_with fail
  refine (number_ok R _ l N (p + 5) 5 w1 HX1.out HS1.out hl hN (by omega) (by omega)).mono ?_
  rintro e w2 ⟨rfl, hx2, ho2⟩
  rw [← HY.out]
  have HX2 := Lib.hid hx2
  have HS2 := Lib.hid (HS1.out.rdr HX1.out ho2)
  have HO2 := Lib.hid (HO1.out.trans ho2)
  have HG2 := Lib.hid (HGL.out.only hne HO2.out)
  clear hx2 ho2 HX1 HS1 HO1 HX HSL HGL
  go_wp2_with fail
  refine (code_any R _ l N (p + 10) w2 HX2.out HS2.out HG2.out hl hN (by omega)).mono ?_
  intro e w3 hcp
  obtain ⟨ho3, hcp⟩ := hcp
  rw [show p + 10 + 4 = p + 14 from rfl, ← HC.out] at hcp
  rw [← HLS.out] at hcp
  rcases hcp with ⟨_, rfl, hn3, hx3⟩ | ⟨h, _⟩
  rotate_left
  · omega
  have HX3 := Lib.hid hx3
  have HS3 := Lib.hid (HS2.out.rdr HX2.out ho3)
  have HO3 := Lib.hid (HO2.out.trans ho3)
  have HZ3 := Lib.hid (zl_nums (cap := 19) hn3 HL19.out.symm (by omega))
  clear hx3 ho3 hn3 HX2 HS2 HO2 HG2
  go_wp2_with fail
  refine (HNEW.out _ w3 HZ3.out).mono ?_
  rintro e w4 ⟨rfl, hb4⟩
  have HB4 := Lib.hid hb4
  clear hb4
  go_wp2_with fail
  refine (needTab_bad _ c6 h6 _).mono ?_
  rintro e w5 ⟨rfl, rfl⟩
  exact ⟨rfl, HeadPost.bad (HO3.out.trans (Only.of_below HB4.out)) h6⟩


def slLen : Value → Nat
  | .slice _ n _ => n
  | _ => 0

/-- A part of the call's own numbers. -/
theorem own_part {base : Nat} {w : World} {g len cap : Nat} {xs : List Nat} (h : Own base w (.slice (some ⟨g, 0, none⟩) len cap) xs) (h0 : 0 < xs.length) (h9 : xs.length ≤ 100000) (i m cap' : Nat) (hm : i + m ≤ xs.length) :
    Zl w (.slice (some ⟨g, i, none⟩) m cap') (Hd.zz ((xs.drop i).take m)) := by
  obtain ⟨g', e, hg, hb, hc⟩ := h.cells h0
  obtain rfl : g = g' := by simpa using e
  refine ⟨_, m, cap', rfl, by rw [Hd.zz_length, List.length_take, List.length_drop]; omega, by omega, fun h => by simp at h, fun _ => ⟨g, i, rfl, hg, fun j hj => ?_⟩⟩
  rw [hc (i + j) (by omega), Hd.zz_get, List.getElem?_take_of_lt hj, List.getElem?_drop]

set_option maxRecDepth 100000 in
set_option maxHeartbeats 4000000 in
theorem header_run (R : Nat) (s : Value) (l : List Bool) (N p : Nat) (w : World) (hx : Has w R (rdr s N p)) (hs : Sl w s (Bs.pack l)) (hgl : Glob w) (hl : Hid (N = l.length)) (hN : N ≤ 2251799813685248) (hp : p + 14 ≤ N) (h3 : ¬ (286 < Hd.num l p 5 + 257 ∨ 30 < Hd.num l (p + 5) 5 + 1)) (h5 : p + 14 + 3 * (Hd.num l (p + 10) 4 + 4) ≤ N) (h6 : newE (Hd.zz (Hd.cl l (p + 14) (Hd.num l (p + 10) 4 + 4))) = 0) :
    Calls Tryz.prog 196 #[.pointer (some ⟨R, 0, none⟩)] w (HeadPost R w s N (Hd.fin (Hd.num l p 5 + 257) (Hd.runs (Hd.cl l (p + 14) (Hd.num l (p + 10) 4 + 4)) l (Hd.num l p 5 + 257 + (Hd.num l (p + 5) 5 + 1)) 400 [] (p + 14 + 3 * (Hd.num l (p + 10) 4 + 4))))) := by
  obtain ⟨sa, sl, sc, rfl, hsl⟩ := hs.shape
  have hne := hgl.ne hx ⟨_, _, _, rfl⟩
  have HS := Lib.hid (number_ok R _ l N p 5 _ hx hs hl hN (by omega) (by omega))
  have hx5 := Hd.num_lt l p 5
  have hy5 := Hd.num_lt l (p + 5) 5
  obtain ⟨x, hxx⟩ : ∃ x, x = Hd.num l p 5 := ⟨_, rfl⟩
  obtain ⟨y, hyy⟩ : ∃ y, y = Hd.num l (p + 5) 5 := ⟨_, rfl⟩
  rw [← hxx] at HS hx5
  rw [← hyy] at hy5
  have HY := Lib.hid hyy
  have HXX := Lib.hid hxx
  rw [← hxx, ← hyy] at h3 ⊢
  have d1 : decide ((286 : Int) < (x : Int) + 257) = false := decide_eq_false (by omega)
  have d2 : decide ((30 : Int) < (y : Int) + 1) = false := decide_eq_false (by omega)
  obtain ⟨c, hc⟩ : ∃ c, c = Hd.num l (p + 10) 4 + 4 := ⟨_, rfl⟩
  have hc19 : c ≤ 19 := by have := Hd.num_lt l (p + 10) 4; omega
  rw [← hc] at h5
  have HC := Lib.hid hc
  clear hc
  obtain ⟨ls, hls⟩ : ∃ ls, ls = Hd.cl l (p + 14) c := ⟨_, rfl⟩
  have hl19 : ls.length = 19 := by rw [hls]; exact Hd.cl_length _ _ _
  rw [← HC.out, ← hls] at h6
  have HLS := Lib.hid hls
  have HL19 := Lib.hid hl19
  clear hls hl19
  rw [← HC.out, ← HLS.out]
  have hg : Good ls := by have := good_of h6; rwa [Hd.nat_zz] at this
  have hx29 : x ≤ 29 := by omega
  have hy29 : y ≤ 29 := by omega
  obtain ⟨n, hn⟩ : ∃ n, n = x + 257 + (y + 1) := ⟨_, rfl⟩
  have hni : (n : Int) = (x : Int) + 257 + ((y : Int) + 1) := by omega
  have HLEN : Hid (∀ (base : Nat) (sv : Value) (acc : List Nat) (s v : Nat) (w : World), s < 19 → v < 2 ^ Hd.ex s → acc.length ≤ n → Own base w sv acc → base ≤ w.heap.size →
      Calls Tryz.prog 219 #[sv, .agg #[.int .i64 (s : Int), .int .i64 (v : Int)], .int .i64 ((x : Int) + 257 + ((y : Int) + 1))] w (LenPost base w (Hd.take acc s v n))) := by
    intro base sv acc s v w h1 h2 h3 h4 h5
    rw [← hni]
    exact lengthen_any base sv acc s v n h1 h2 (by omega) h3 w h4 h5
  have HNEW : Hid (∀ s3 w3, Zl w3 s3 (Hd.zz ls) → Calls Tryz.prog 158 #[s3] w3 (fun e w' => ∃ T, e = .returned (.tuple #[.pointer (some ⟨T, 0, none⟩), .int .i64 0]) ∧ Tab w3.heap.size w' T ls ∧ Below w3.heap.size w3 w')) := by
    intro s3 w3 h
    have := new_ok (Hd.zz ls) s3 w3 h h6
    rwa [Hd.nat_zz] at this
  rw [← hn]
  obtain ⟨res, hres⟩ : ∃ res, res = Hd.runs ls l n 400 [] (p + 14 + 3 * c) := ⟨_, rfl⟩
  rw [← hres]
  have HRES := Lib.hid (fun _ : Unit => hres)
  have HN := Lib.hid hn
  have HG := Lib.hid hg
  have hn0 : 258 ≤ n ∧ n ≤ 316 := by omega
  clear h6 hn hni hres hg
  have HX := Lib.hid hx
  have HSL := Lib.hid hs
  have HGL := Lib.hid hgl
  clear hx hs hgl hsl hxx hyy
  go_enter Tryz.func196, Tryz.ntmps196
  go_wp2_with fail
  refine HS.out.mono ?_
  clear HS
  rintro e w1 ⟨rfl, hx1, ho⟩
  have HX1 := Lib.hid hx1
  have HS1 := Lib.hid (HSL.out.rdr HX.out ho)
  have HO1 := Lib.hid ho
  clear hx1 ho
  go_wp2_with fail
  refine (number_ok R _ l N (p + 5) 5 w1 HX1.out HS1.out hl hN (by omega) (by omega)).mono ?_
  rintro e w2 ⟨rfl, hx2, ho2⟩
  rw [← HY.out]
  have HX2 := Lib.hid hx2
  have HS2 := Lib.hid (HS1.out.rdr HX1.out ho2)
  have HO2 := Lib.hid (HO1.out.trans ho2)
  have HG2 := Lib.hid (HGL.out.only hne HO2.out)
  clear hx2 ho2 HX1 HS1 HO1 HX HSL HGL
  go_wp2_with fail
  refine (code_any R _ l N (p + 10) w2 HX2.out HS2.out HG2.out hl hN (by omega)).mono ?_
  intro e w3 hcp
  obtain ⟨ho3, hcp⟩ := hcp
  rw [show p + 10 + 4 = p + 14 from rfl, ← HC.out] at hcp
  rw [← HLS.out] at hcp
  rcases hcp with ⟨_, rfl, hn3, hx3⟩ | ⟨h, _⟩
  rotate_left
  · omega
  have HX3 := Lib.hid hx3
  have HS3 := Lib.hid (HS2.out.rdr HX2.out ho3)
  have HO3 := Lib.hid (HO2.out.trans ho3)
  have HZ3 := Lib.hid (zl_nums (cap := 19) hn3 HL19.out.symm (by omega))
  clear hx3 ho3 hn3 HX2 HS2 HO2 HG2
  go_wp2_with fail
  refine (HNEW.out _ w3 HZ3.out).mono ?_
  clear HNEW
  rintro e w4 ⟨T, rfl, htab, hb4⟩
  obtain ⟨g, capg, _, hTb⟩ := tb_of htab HG.out
  have HX4 := Lib.hid (HX3.out.later hb4)
  have HS4 := Lib.hid (HS3.out.later hb4)
  have HO4 := Lib.hid (HO3.out.trans (Only.of_below hb4))
  have HT4 := Lib.hid hTb
  have hR4 : R < w4.heap.size := HX4.out.lt
  clear htab hb4 hTb HX3 HS3 HO3 HZ3
  go_wp2_with fail
  refine (needTab_ok _ _).mono ?_
  rintro e w5 ⟨rfl, rfl⟩
  go_wp2_with fail
  go_loopw [7] (fun s7 wr => ∃ (acc : List Nat) (q k : Nat), Hid (Own w4.heap.size wr s7 acc) ∧ acc.length ≤ n ∧ q ≤ N ∧ n - acc.length < k ∧ Hid (Has wr R (rdr (.slice sa sl sc) N q)) ∧ Hid (Only R w4 wr) ∧ Hid (Unit → res = Hd.runs ls l n k acc q)) (fun s _ => n - slLen s)
  case atStart => exact ⟨[], p + 14 + 3 * c, 400, Own.nil _ _, Nat.zero_le _, h5, by simp only [List.length_nil]; omega, HX4, Only.refl _ _, HRES.out⟩
  case round =>
    obtain ⟨acc, q, k, KW, hal, hqN, hk, KX, KO, KRES⟩ := hrel
    have KS := Lib.hid (HS4.out.rdr HX4.out KO.out)
    have KT := Lib.hid (HT4.out.rdr HG.out HX4.out ⟨_, _, _, rfl⟩ KO.out)
    obtain ⟨aa, capa, rfl⟩ := KW.out.shape
    obtain ⟨len, hlen⟩ : ∃ len, len = acc.length := ⟨_, rfl⟩
    rw [← hlen] at KW hal hk ⊢
    have HL := Lib.hid hlen
    clear hlen
    by_cases hlt : len < n
    · have j0 : decide ((len : Int) < (x : Int) + 257 + ((y : Int) + 1)) = true := decide_eq_true (by have := HN.out; omega)
      obtain ⟨sy, hsy⟩ : ∃ v, v = (Hd.rd ls l q).1 := ⟨_, rfl⟩
      obtain ⟨qq, hqq⟩ : ∃ v, v = (Hd.rd ls l q).2.1 := ⟨_, rfl⟩
      obtain ⟨cc, hcc⟩ : ∃ v, v = (Hd.rd ls l q).2.2 := ⟨_, rfl⟩
      have hr : Hd.rd ls l q = (sy, qq, cc) := by rw [hsy, hqq, hcc]
      have hrl := Hd.rd_lt (by rw [← hl.out]; exact hqN) hr
      have HR := Lib.hid hr
      have hB4 : w4.heap.size ≤ wr.heap.size := KO.out.size
      have hk0 : 0 < k := by omega
      clear hsy hqq hcc hr
      by_cases hc0 : cc = 0
      · subst hc0
        obtain ⟨hs19, hpq, hqN2⟩ := hrl.1 rfl
        rw [← hl.out] at hqN2
        have hs19' : sy < 19 := by have := HL19.out; omega
        clear hrl hs19
        by_cases hsh : N < qq + Hd.ex sy
        · have HRUN := Lib.hid (run_short R T g capg ls HG.out _ l N q wr KX.out KT.out KS.out hl hN hqN sy qq HR hqN2 hsh)
          have HF : Hid (Hd.fin (x + 257) res = ([], [], 0, 4)) := by
            show _ = _
            rw [KRES.out (), Hd.runs_short ls l n k acc q qq sy (by rw [← HL.out]; exact hlt) hk0 HR.out (by rw [← hl.out]; exact hsh)]
            exact Hd.fin_bad _ _ _ _ (by decide)
          clear hsh
          go_wp2_with fail
          refine HRUN.out.mono ?_
          rintro e w6 ⟨rfl, ho6⟩
          refine ⟨rfl, ?_⟩
          rw [HF.out]
          exact HeadPost.bad (HO4.out.trans (KO.out.trans ho6)) (by decide)
        · have hv := Hd.num_lt l qq (Hd.ex sy)
          obtain ⟨v, hvv⟩ : ∃ v, v = Hd.num l qq (Hd.ex sy) := ⟨_, rfl⟩
          rw [← hvv] at hv
          have HV := Lib.hid hvv
          obtain ⟨nx, hnx⟩ : ∃ m, m = qq + Hd.ex sy := ⟨_, rfl⟩
          have hnxN : nx ≤ N := by omega
          have HRUN : Hid (Calls Tryz.prog 220 #[.pointer (some ⟨R, 0, none⟩), .pointer (some ⟨T, 0, none⟩)] wr fun e w' => e = .returned (.agg #[.int .i64 (sy : Int), .int .i64 (v : Int)]) ∧ Has w' R (rdr (.slice sa sl sc) N nx) ∧ Only R wr w') := by
            have := run_ok R T g capg ls HG.out _ l N q wr KX.out KT.out KS.out hl hN hqN sy qq v HR (by omega) HV
            rwa [← hnx] at this
          obtain ⟨x2, c2, ht⟩ : ∃ x2 c2, Hd.take acc sy v n = (x2, c2) := ⟨_, _, rfl⟩
          have HT2 := Lib.hid ht
          have HSTEP : Hid (Unit → res = if c2 ≠ 0 then ([], 0, c2) else Hd.runs ls l n (k - 1) x2 nx) := fun _ => by
            rw [KRES.out (), Hd.runs_take ls l n k acc q qq sy v x2 c2 (by rw [← HL.out]; exact hlt) hk0 HR.out (by rw [← hl.out, ← hnx]; exact hnxN) HV.out HT2.out, ← hnx]
          have HAL : Hid (acc.length ≤ n) := by show _ ≤ _; rw [← HL.out]; exact hal
          clear hvv hnx ht hsh KRES
          go_wp2_with fail
          refine HRUN.out.mono ?_
          clear HRUN
          rintro e w6 ⟨rfl, hx6, ho6⟩
          have KW6 := Lib.hid (KW.out.only ho6 hR4)
          have KX6 := Lib.hid hx6
          have KO6 := Lib.hid (KO.out.trans ho6)
          have HL6 := HLEN.out w4.heap.size _ acc sy v w6 hs19' hv HAL.out KW6.out KO6.out.size
          rw [HT2.out] at HL6
          have HL7 := Lib.hid HL6
          clear hx6 ho6 HL6
          go_wp2_with fail
          refine HL7.out.mono ?_
          clear HL7
          intro e w7 h7
          obtain ⟨s7, rfl, hown7, hb7⟩ := h7.pair
          have KX7 := Lib.hid (KX6.out.below hb7 hR4)
          have KO7 := Lib.hid (KO6.out.past hb7)
          clear h7 hb7
          by_cases hc2 : c2 = 0
          · subst hc2
            obtain ⟨a7, cap7, rfl⟩ := (hown7 rfl).shape
            have KW7 := Lib.hid (hown7 rfl)
            have htl := Hd.take_length HT2.out
            rw [← HL.out] at htl
            have KRES7 : Hid (Unit → res = Hd.runs ls l n (k - 1) x2 nx) := fun _ => by have := HSTEP.out (); rwa [if_neg (by simp)] at this
            clear hown7 HSTEP
            go_wp2_with fail
            refine (needInts_ok _ _).mono ?_
            rintro e w8 ⟨rfl, rfl⟩
            go_wp2_with fail
            go_round
            case rel => exact ⟨x2, nx, k - 1, KW7, htl.2, hnxN, by omega, KX7, KO7, KRES7⟩
            case measure => simp [slLen]; omega
          · have HF : Hid (Hd.fin (x + 257) res = ([], [], 0, c2)) := by
              show _ = _
              rw [HSTEP.out (), if_pos hc2]
              exact Hd.fin_bad _ _ _ _ hc2
            clear hown7 HSTEP
            go_wp2_with fail
            refine (needInts_bad _ c2 hc2 _).mono ?_
            rintro e w8 ⟨rfl, rfl⟩
            refine ⟨rfl, ?_⟩
            rw [HF.out]
            exact HeadPost.bad (HO4.out.trans KO7.out) hc2
      · have HRUN := Lib.hid (run_bad R T g capg ls HG.out _ l N q wr KX.out KT.out KS.out hl hN hqN sy qq cc HR hc0)
        have HF : Hid (Hd.fin (x + 257) res = ([], [], 0, cc)) := by
          show _ = _
          rw [KRES.out (), Hd.runs_sym ls l n k acc q qq sy cc (by rw [← HL.out]; exact hlt) hk0 HR.out hc0]
          exact Hd.fin_bad _ _ _ _ hc0
        clear hrl
        go_wp2_with fail
        refine HRUN.out.mono ?_
        rintro e w6 ⟨rfl, ho6⟩
        refine ⟨rfl, ?_⟩
        rw [HF.out]
        exact HeadPost.bad (HO4.out.trans (KO.out.trans ho6)) hc0
    · obtain rfl : len = n := by omega
      have j0 : decide ((len : Int) < (x : Int) + 257 + ((y : Int) + 1)) = false := decide_eq_false (by have := HN.out; omega)
      have HF : Hid (Hd.fin (x + 257) res = (acc.take (x + 257), acc.drop (x + 257), q, 0)) := by
        show _ = _
        rw [KRES.out (), Hd.runs_done ls l len k acc q (by rw [← HL.out]; omega)]
        exact Hd.fin_ok _ _ _
      have hal0 : 0 < acc.length := by rw [← HL.out]; omega
      obtain ⟨gg, rfl, hgg, _, _⟩ := KW.out.cells hal0
      have hcap := KW.out.cap.2
      have HW := Lib.hid KW.out
      have hxl : x + 257 < len := by have := HN.out; omega
      have hxi : (x : Int) + 257 ≤ (len : Int) := by omega
      have hxc : (x : Int) + 257 ≤ (capa : Int) := by omega
      have hne7 : ¬ capa = x + 257 := by omega
      have hx0 : (0 : Int) ≤ (x : Int) + 257 := by omega
      have hnat : ((x : Int) + 257).toNat = x + 257 := by omega
      have hln : len = acc.length := HL.out
      have C1 : Hid (∀ W, Below wr.heap.size wr W → Calls Tryz.prog 221 #[.slice (some ⟨gg, 0, none⟩) (x + 257) capa] W (ClonePost W (acc.take (x + 257)))) := by
        intro W hW
        have hz := own_part (HW.out.keep hW) (by omega) (by omega) 0 (x + 257) capa (by omega)
        rw [List.drop_zero] at hz
        exact clone_any _ _ _ _ W hz (by rw [List.length_take]; omega)
      have C2 : Hid (∀ W, Below wr.heap.size wr W → Calls Tryz.prog 221 #[.slice (some ⟨gg, x + 257, none⟩) (len - (x + 257)) (capa - (x + 257))] W (ClonePost W (acc.drop (x + 257)))) := by
        intro W hW
        have hz := own_part (HW.out.keep hW) (by omega) (by omega) (x + 257) (len - (x + 257)) (capa - (x + 257)) (by omega)
        rw [List.take_of_length_le (by rw [List.length_drop]; omega)] at hz
        exact clone_any _ _ _ _ W hz (by rw [List.length_drop]; omega)
      have BD := Lib.hid ((Below.refl wr.heap.size wr).drew)
      clear hal hk hal0 hln
      go_wp2
      go_region_with (first | (go_at_call 221; (with_reducible refine (C1.out _ BD.out).mono ?_); intro e w8 h8; obtain ⟨s1, rfl, o1, b8⟩ := h8; have BA := Lib.hid (BD.out.trans (b8.mono (Nat.le_refl _))); have O1 := Lib.hid o1; have B8 := Lib.hid b8; clear o1 b8) | (go_at_call 221; (with_reducible refine (C2.out _ BD.out).mono ?_); intro e w8 h8; obtain ⟨s2, rfl, o2, b8⟩ := h8; have BA := Lib.hid (BD.out.trans (b8.mono (Nat.le_refl _))); have O2 := Lib.hid o2; have B8 := Lib.hid b8; clear o2 b8) | (go_at_call 221; (with_reducible refine (C2.out _ BA.out).mono ?_); intro e w9 h9; obtain ⟨s2, rfl, o2, b9⟩ := h9; have O2 := Lib.hid o2; have B9 := Lib.hid b9; have BB := Lib.hid (BA.out.trans (b9.mono BA.out.size)); have O3 := Lib.hid (O1.out.keep b9); have HZ8 := Lib.hid BA.out.size; clear o2 b9) | (go_at_call 221; (with_reducible refine (C1.out _ BA.out).mono ?_); intro e w9 h9; obtain ⟨s1, rfl, o1, b9⟩ := h9; have O1 := Lib.hid o1; have B9 := Lib.hid b9; have BB := Lib.hid (BA.out.trans (b9.mono BA.out.size)); have O3 := Lib.hid (O2.out.keep b9); clear o1 b9))
      all_goals
        have HRR := Lib.hid (HO4.out.trans KO.out)
        have X9 := Lib.hid (KX.out.below BB.out (Nat.lt_of_lt_of_le hR4 KO.out.size))
        clear B8 B9 BA
        go_simp
        go_wp2
        go_ret2
        rw [HF.out]
        exact ⟨HRR.out.trans (Only.of_below BB.out), Or.inr ⟨rfl, s1, s2, rfl, O3.out.weaken HRR.out.size, O2.out.weaken (Nat.le_trans HRR.out.size HZ8.out), X9.out⟩⟩
end Go.Proofs.YtnjlljdbghcobaaGreatDoor
