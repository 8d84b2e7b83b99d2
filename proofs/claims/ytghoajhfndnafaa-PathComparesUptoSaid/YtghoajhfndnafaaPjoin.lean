/- path.Join. -/
import Derived.Test.YtghoajhfndnafaaPapp

namespace Go.Proofs.Ytghoajhfndnafaa
set_option maxRecDepth 100000
open Go.RowKit

theorem map_bx_list (l : List Tx) : (l.map bx).map (·.data.toList) = l := by
  induction l with
  | nil => rfl
  | cons a t ih => simp only [List.map_cons, ih, bx_list]

/-- strings.Join at the texts l. -/
theorem sjoin_any (v : Value) (l : List Tx) (w : World) (h : Ss w v l) (hp : Pn.path l = true) :
    Calls Try.prog 34 #[v, .string ⟨#[47]⟩] w fun e w' => e = .returned (.string (bx (Pn.join l))) ∧ Below w.heap.size w w' := by
  obtain ⟨a, cap, rfl, hcap, hc⟩ := h
  by_cases h0 : l = []
  · subst h0
    exact (Try.strings_Join_none a cap _ w).mono fun e w' ⟨he, hw⟩ => ⟨he, hw ▸ Below.refl _ _⟩
  · obtain ⟨b, off, rfl, hlt, hcell⟩ := hc h0
    have hn := Pn.path_len hp
    have hs := Pn.path_size hp
    have hlm : (l.map bx).length = l.length := by simp
    have key := Try.strings_Join b off cap (l.map bx) ⟨#[47]⟩ w (fun j x hj => by
      obtain ⟨hj1, hj2⟩ := List.getElem?_eq_some_iff.1 hj
      rw [hlm] at hj1
      rw [hcell j hj1, ← hj2]
      simp) hlt (by rw [hlm]; omega) (by rw [hlm]; omega) (by rw [map_bx_list]; show (Pn.join l).length ≤ _; omega)
    rw [hlm, map_bx_list] at key
    exact key

set_option maxHeartbeats 2000000 in
theorem join_any (v : Value) (l : List Tx) (w : World) (h : Ss w v l) (hl : l.length ≤ 1000000) :
    Calls Try.prog 19 #[v] w fun e w' => e = .returned (.tuple #[.string (bx (Pn.joined l).1), .int .i64 (ec (Pn.path l))]) ∧ Below w.heap.size w w' := by
  have HM := Lib.hid (may_any v l w h hl)
  obtain ⟨a, cap, hv, _⟩ := id h
  cases hp : Pn.path l with
  | false =>
    have hj : (Pn.joined l).1 = [] := by simp only [Pn.joined, hp]; rfl
    rw [hj]
    rw [hp] at HM
    subst hv
    clear h hp hj
    go_enter Try.func19, Try.ntmps19
    go_wp2_with (go_at_call 32; refine HM.out.mono ?_; rintro e w' ⟨rfl, hb⟩; have HB := Lib.hid hb; clear hb)
    go_ret2
    exact ⟨rfl, HB.out⟩
  | true =>
    have hj : (Pn.joined l).1 = Pn.join l := by simp only [Pn.joined, hp]; rfl
    have hz := Pn.path_size hp
    rw [hj]
    rw [hp] at HM
    have HJ := Lib.hid (fun w' (hb : Below w.heap.size w w') => sjoin_any v l w' (h.later hb) hp)
    have HC := Lib.hid (fun w' => clone_any (Pn.join l) w' (by omega))
    generalize bx (Pn.join l) = X at HJ HC
    subst hv
    clear h hp hj hz
    go_enter Try.func19, Try.ntmps19
    go_wp2_with (first
      | (go_at_call 32; refine HM.out.mono ?_; rintro e w1 ⟨rfl, hb⟩; have HB := Lib.hid hb; clear hb)
      | (go_at_call 34; refine (HJ.out _ HB.out).mono ?_; rintro e w2 ⟨rfl, hb2⟩; have HB2 := Lib.hid hb2; clear hb2)
      | (go_at_call 31; refine (HC.out _).mono ?_; rintro e w3 ⟨rfl, hb3⟩; have HB3 := Lib.hid hb3; clear hb3))
    go_ret2
    exact ⟨rfl, HB.out.trans ((HB2.out.mono HB.out.size).trans (HB3.out.mono (Nat.le_trans HB.out.size HB2.out.size)))⟩
end Go.Proofs.Ytghoajhfndnafaa
