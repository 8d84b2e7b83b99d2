/- Contracts of (*head).both, local, central and (*end).numbers: the iterators over a header's numbers. -/
import Derived.Test.YtillckjohlbaiaaNeach
import Derived.Deep.RegionHeld3

namespace Go.Proofs.Ytillckjohlbaiaa
set_option maxRecDepth 100000
open Go.RowKit Go.Shelf

/-- Field k of what lies at cell o of block H. -/
def fld (H o k : Nat) : Value := .pointer (some ⟨H, o + k, none⟩)
/-- .. as a yield has it, with its width. -/
def fw (H o : Nat) (p : Nat × Int) : Array Value := #[fld H o p.1, .int .i64 p.2]
/-- The numbers of either header. -/
def bothL : List (Nat × Int) := [(1, 2), (2, 2), (3, 2), (4, 2), (5, 2), (6, 4), (7, 4), (8, 4), (9, 2), (10, 2)]
def centralL : List (Nat × Int) := (0, 2) :: bothL ++ [(11, 2), (12, 2), (13, 2), (14, 4), (15, 4)]
def endL : List (Nat × Int) := [(0, 2), (1, 2), (2, 2), (3, 2), (4, 4), (5, 4), (6, 2)]

theorem tell_all (l B : Nat) (ps : List Value) (h9 : ps.length ≤ 9) (wd : Int) (J : Nat → World → Prop) (hJ : ∀ i, Grows B (J i)) (i0 : Nat) (W : World) (hB : B ≤ W.heap.size)
    (hY : ∀ (j : Nat) (p : Value), ps[j]? = some p → Goes Try.prog B l #[p, .int .i64 wd] (J (i0 + j)) (J (i0 + j + 1))) (h0 : J i0 W) :
    Calls Try.prog 80 #[.func (.yield l) #[] #[], .int .i64 wd, .slice (some ⟨W.heap.size, 0, none⟩) ps.length ps.length] (W.alloc (.cells ps.toArray 143)) fun e W' => e = .returned (.bool true) ∧ B ≤ W'.heap.size ∧ J (i0 + ps.length) W' := by
  refine (each_all l B ps h9 wd W.heap.size J i0 _ (Has.new W _) hB hY (hJ _ _ _ h0 hB (below1 W _))).mono ?_
  rintro e w' ⟨rfl, hu, hj⟩
  exact ⟨rfl, Nat.le_trans hB (Nat.le_trans (by simp) hu.size), hj⟩

theorem tell_stop (l B : Nat) (ps : List Value) (h9 : ps.length ≤ 9) (wd : Int) (J : Nat → World → Prop) (Jx : World → Prop) (hJ : ∀ i, Grows B (J i)) (i0 s : Nat) (hs : s < ps.length) (W : World) (hB : B ≤ W.heap.size)
    (hY : ∀ (j : Nat) (p : Value), j < s → ps[j]? = some p → Goes Try.prog B l #[p, .int .i64 wd] (J (i0 + j)) (J (i0 + j + 1))) (hX : ∀ (p : Value), ps[s]? = some p → Stops Try.prog B l #[p, .int .i64 wd] (J (i0 + s)) Jx) (h0 : J i0 W) :
    Calls Try.prog 80 #[.func (.yield l) #[] #[], .int .i64 wd, .slice (some ⟨W.heap.size, 0, none⟩) ps.length ps.length] (W.alloc (.cells ps.toArray 143)) fun e W' => e = .returned (.bool false) ∧ B ≤ W'.heap.size ∧ Jx W' := by
  refine (each_stop l B ps h9 wd W.heap.size J Jx i0 s hs _ (Has.new W _) hB hY hX (hJ _ _ _ h0 hB (below1 W _))).mono ?_
  rintro e w' ⟨rfl, hu, hj⟩
  exact ⟨rfl, Nat.le_trans hB (Nat.le_trans (by simp) hu.size), hj⟩

theorem grows_drew {B : Nat} {J : World → Prop} (h : Grows B J) {w : World} (h0 : J w) (hB : B ≤ w.heap.size) : J w.drew := h _ _ h0 hB (Below.refl _ _).drew

set_option maxRecDepth 100000 in
set_option maxHeartbeats 4000000 in
theorem both_all (l B H o : Nat) (J : Nat → World → Prop) (hJ : ∀ i, Grows B (J i)) (i0 : Nat) (w : World) (hB : B ≤ w.heap.size)
    (hY : ∀ (i : Nat) (p : Nat × Int), bothL[i]? = some p → Goes Try.prog B l (fw H o p) (J (i0 + i)) (J (i0 + i + 1))) (h0 : J i0 w) :
    Calls Try.prog 78 #[.pointer (some ⟨H, o, none⟩), .func (.yield l) #[] #[]] w fun e w' => e = .returned (.bool true) ∧ B ≤ w'.heap.size ∧ J (i0 + 10) w' := by
  have T1 := Lib.hid (fun (W : World) (h0 : J i0 W) (hB : B ≤ W.heap.size) => tell_all l B [.pointer (some ⟨H, o + 1, none⟩), .pointer (some ⟨H, o + 2, none⟩), .pointer (some ⟨H, o + 3, none⟩), .pointer (some ⟨H, o + 4, none⟩), .pointer (some ⟨H, o + 5, none⟩)] (by simp) 2 J hJ i0 W hB
    (fun j p hp => by match j, hp with | 0, hp => cases hp; exact hY 0 _ rfl | 1, hp => cases hp; exact hY 1 _ rfl | 2, hp => cases hp; exact hY 2 _ rfl | 3, hp => cases hp; exact hY 3 _ rfl | 4, hp => cases hp; exact hY 4 _ rfl) h0)
  have T2 := Lib.hid (fun (W : World) (h0 : J (i0 + 5) W) (hB : B ≤ W.heap.size) => tell_all l B [.pointer (some ⟨H, o + 6, none⟩), .pointer (some ⟨H, o + 7, none⟩), .pointer (some ⟨H, o + 8, none⟩)] (by simp) 4 J hJ (i0 + 5) W hB
    (fun j p hp => by match j, hp with | 0, hp => cases hp; exact hY 5 _ rfl | 1, hp => cases hp; exact hY 6 _ rfl | 2, hp => cases hp; exact hY 7 _ rfl) h0)
  have T3 := Lib.hid (fun (W : World) (h0 : J (i0 + 8) W) (hB : B ≤ W.heap.size) => tell_all l B [.pointer (some ⟨H, o + 9, none⟩), .pointer (some ⟨H, o + 10, none⟩)] (by simp) 2 J hJ (i0 + 8) W hB
    (fun j p hp => by match j, hp with | 0, hp => cases hp; exact hY 8 _ rfl | 1, hp => cases hp; exact hY 9 _ rfl) h0)
  have J0 := Lib.hid (grows_drew (hJ i0) h0 hB)
  have B0 : Hid (B ≤ w.drew.heap.size) := hB
  clear hY h0 hB
  go_enter Try.func78, Try.ntmps78
  go_wp2_with fail
  have hT : True := trivial
  go_region_held3 (fun _ => True) (trivial) (first | (go_at_call 80; refine (T1.out _ J0.out B0.out).mono ?_; rintro e w1 ⟨rfl, hb1, hj1⟩; have B1 := Lib.hid hb1; have J1 := Lib.hid hj1; clear hb1 hj1 J0 B0) | (go_at_call 80; refine (T2.out _ J1.out B1.out).mono ?_; rintro e w2 ⟨rfl, hb2, hj2⟩; have B2 := Lib.hid hb2; have J2 := Lib.hid hj2; clear hb2 hj2 J1 B1) | (go_at_call 80; refine (T3.out _ J2.out B2.out).mono ?_; rintro e w3 ⟨rfl, hb3, hj3⟩; have B3 := Lib.hid hb3; have J3 := Lib.hid hj3; clear hb3 hj3))
  go_wp2
  go_ret
  exact ⟨rfl, B3.out, J3.out⟩
end Go.Proofs.Ytillckjohlbaiaa
