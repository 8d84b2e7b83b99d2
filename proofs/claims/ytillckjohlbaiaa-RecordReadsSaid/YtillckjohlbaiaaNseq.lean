/- The iterators over the numbers of a local header, of a central one, and of an end. -/
import Derived.Test.YtillckjohlbaiaaNboth

namespace Go.Proofs.Ytillckjohlbaiaa
set_option maxRecDepth 100000
open Go.RowKit Go.Shelf

set_option maxRecDepth 100000 in
set_option maxHeartbeats 4000000 in
theorem local_seq (H o : Nat) : SeqFix Try.prog 38 #[.pointer (some ⟨H, o, none⟩)] #[] (bothL.map (fw H o)) := by
  intro l J W hJ hY h0
  have T := Lib.hid (both_all l W.heap.size H o J hJ 0 W (Nat.le_refl _) (fun i p hp => by rw [Nat.zero_add]; exact hY i _ (by rw [List.getElem?_map, hp]; rfl)) h0)
  clear hY hJ h0
  show Calls Try.prog 38 #[.pointer (some ⟨H, o, none⟩), .func (.yield l) #[] #[]] W _
  go_enter Try.func38, Try.ntmps38
  go_wp2_with (go_at_call 78; refine T.out.mono ?_; rintro e w1 ⟨rfl, hb1, hj1⟩)
  go_end0
  exact ⟨⟨_, rfl⟩, hj1⟩

set_option maxRecDepth 100000 in
set_option maxHeartbeats 4000000 in
theorem central_seq (H o : Nat) : SeqFix Try.prog 42 #[.pointer (some ⟨H, o, none⟩)] #[] (centralL.map (fw H o)) := by
  intro l J w hJ hY h0
  obtain ⟨B, hB⟩ : ∃ B, B = w.heap.size := ⟨_, rfl⟩
  rw [← hB] at hJ hY
  have T1 := Lib.hid (fun (W : World) (h0 : J 0 W) (hB : B ≤ W.heap.size) => tell_all l B [.pointer (some ⟨H, o, none⟩)] (by simp) 2 J hJ 0 W hB
    (fun j p hp => by match j, hp with | 0, hp => cases hp; exact hY 0 _ rfl) h0)
  have T2 := Lib.hid (fun (W : World) (h0 : J 1 W) (hB : B ≤ W.heap.size) => both_all l B H o J hJ 1 W hB
    (fun i p hp => by rw [Nat.add_comm 1 i]; exact hY (i + 1) _ (by rw [List.getElem?_map]; show Option.map _ ((bothL ++ _)[i]?) = _; rw [List.getElem?_append_left (List.getElem?_eq_some_iff.1 hp).1, hp]; rfl)) h0)
  have T3 := Lib.hid (fun (W : World) (h0 : J 11 W) (hB : B ≤ W.heap.size) => tell_all l B [.pointer (some ⟨H, o + 11, none⟩), .pointer (some ⟨H, o + 12, none⟩), .pointer (some ⟨H, o + 13, none⟩)] (by simp) 2 J hJ 11 W hB
    (fun j p hp => by match j, hp with | 0, hp => cases hp; exact hY 11 _ rfl | 1, hp => cases hp; exact hY 12 _ rfl | 2, hp => cases hp; exact hY 13 _ rfl) h0)
  have T4 := Lib.hid (fun (W : World) (h0 : J 14 W) (hB : B ≤ W.heap.size) => tell_all l B [.pointer (some ⟨H, o + 14, none⟩), .pointer (some ⟨H, o + 15, none⟩)] (by simp) 4 J hJ 14 W hB
    (fun j p hp => by match j, hp with | 0, hp => cases hp; exact hY 14 _ rfl | 1, hp => cases hp; exact hY 15 _ rfl) h0)
  have B0 : Hid (B ≤ w.drew.heap.size) := Nat.le_of_eq hB
  have J0 := Lib.hid (grows_drew (hJ 0) h0 (Nat.le_of_eq hB))
  clear hY hJ h0 hB
  show Calls Try.prog 42 #[.pointer (some ⟨H, o, none⟩), .func (.yield l) #[] #[]] w _
  go_enter Try.func42, Try.ntmps42
  go_wp2_with fail
  have hT : True := trivial
  go_region_held3 (fun _ => True) (trivial) (first | (go_at_call 80; refine (T1.out _ J0.out B0.out).mono ?_; rintro e w1 ⟨rfl, hb1, hj1⟩; have B1 := Lib.hid hb1; have J1 := Lib.hid hj1; clear hb1 hj1 J0 B0) | (go_at_call 78; refine (T2.out _ J1.out B1.out).mono ?_; rintro e w2 ⟨rfl, hb2, hj2⟩; have B2 := Lib.hid hb2; have J2 := Lib.hid hj2; clear hb2 hj2 J1 B1) | (go_at_call 80; refine (T3.out _ J2.out B2.out).mono ?_; rintro e w3 ⟨rfl, hb3, hj3⟩; have B3 := Lib.hid hb3; have J3 := Lib.hid hj3; clear hb3 hj3 J2 B2) | (go_at_call 80; refine (T4.out _ J3.out B3.out).mono ?_; rintro e w4 ⟨rfl, hb4, hj4⟩; have B4 := Lib.hid hb4; have J4 := Lib.hid hj4; clear hb4 hj4 J3 B3))
  go_wp2
  go_end0
  exact ⟨⟨_, rfl⟩, J4.out⟩

set_option maxRecDepth 100000 in
set_option maxHeartbeats 4000000 in
theorem numbers_seq (H o : Nat) : SeqFix Try.prog 84 #[.pointer (some ⟨H, o, none⟩)] #[] (endL.map (fw H o)) := by
  intro l J w hJ hY h0
  obtain ⟨B, hB⟩ : ∃ B, B = w.heap.size := ⟨_, rfl⟩
  rw [← hB] at hJ hY
  have T1 := Lib.hid (fun (W : World) (h0 : J 0 W) (hB : B ≤ W.heap.size) => tell_all l B [.pointer (some ⟨H, o, none⟩), .pointer (some ⟨H, o + 1, none⟩), .pointer (some ⟨H, o + 2, none⟩), .pointer (some ⟨H, o + 3, none⟩)] (by simp) 2 J hJ 0 W hB
    (fun j p hp => by match j, hp with | 0, hp => cases hp; exact hY 0 _ rfl | 1, hp => cases hp; exact hY 1 _ rfl | 2, hp => cases hp; exact hY 2 _ rfl | 3, hp => cases hp; exact hY 3 _ rfl) h0)
  have T2 := Lib.hid (fun (W : World) (h0 : J 4 W) (hB : B ≤ W.heap.size) => tell_all l B [.pointer (some ⟨H, o + 4, none⟩), .pointer (some ⟨H, o + 5, none⟩)] (by simp) 4 J hJ 4 W hB
    (fun j p hp => by match j, hp with | 0, hp => cases hp; exact hY 4 _ rfl | 1, hp => cases hp; exact hY 5 _ rfl) h0)
  have T3 := Lib.hid (fun (W : World) (h0 : J 6 W) (hB : B ≤ W.heap.size) => tell_all l B [.pointer (some ⟨H, o + 6, none⟩)] (by simp) 2 J hJ 6 W hB
    (fun j p hp => by match j, hp with | 0, hp => cases hp; exact hY 6 _ rfl) h0)
  have B0 : Hid (B ≤ w.drew.heap.size) := Nat.le_of_eq hB
  have J0 := Lib.hid (grows_drew (hJ 0) h0 (Nat.le_of_eq hB))
  clear hY hJ h0 hB
  show Calls Try.prog 84 #[.pointer (some ⟨H, o, none⟩), .func (.yield l) #[] #[]] w _
  go_enter Try.func84, Try.ntmps84
  go_wp2_with fail
  have hT : True := trivial
  go_region_held3 (fun _ => True) (trivial) (first | (go_at_call 80; refine (T1.out _ J0.out B0.out).mono ?_; rintro e w1 ⟨rfl, hb1, hj1⟩; have B1 := Lib.hid hb1; have J1 := Lib.hid hj1; clear hb1 hj1 J0 B0) | (go_at_call 80; refine (T2.out _ J1.out B1.out).mono ?_; rintro e w2 ⟨rfl, hb2, hj2⟩; have B2 := Lib.hid hb2; have J2 := Lib.hid hj2; clear hb2 hj2 J1 B1) | (go_at_call 80; refine (T3.out _ J2.out B2.out).mono ?_; rintro e w3 ⟨rfl, hb3, hj3⟩; have B3 := Lib.hid hb3; have J3 := Lib.hid hj3; clear hb3 hj3 J2 B2))
  go_wp2
  go_end0
  exact ⟨⟨_, rfl⟩, J3.out⟩

end Go.Proofs.Ytillckjohlbaiaa
