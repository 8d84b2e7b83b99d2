/- Contracts of slices.SortStableFunc at int, and of huff.sorted. -/
import Derived.Test.YtgffcffmhhdceaaHstab
namespace Go.Proofs.Ytgffcffmhhdceaa
open Go.RowKit

theorem Only.belowB {g B : Nat} {w w' : World} (h : Only g w w') (hB : B ≤ g) (hs : B ≤ w.heap.size) : Below B w w' := h.below (Below.refl _ _) hB hs

theorem only_alloc (w : World) (g : Nat) (o : Obj) : Only g w (w.alloc o) := ⟨rfl, rfl, rfl, by simp, fun k hk _ => Below.heap_alloc w o k hk⟩

set_option maxHeartbeats 1000000 in
theorem sortStable_any (g cap n K : Nat) (kf : Nat → Nat) (p : Nat → Prop) (d : Nat → Nat) (w : World) (hr : Rw w g n d) (hn : n ≤ 288) (hris : St.Ris kf d n) (hp : ∀ i, i < n → p (d i)) (hcmp : Cmps g kf p K w) :
    Calls Try.prog 56 #[.slice (some ⟨g, 0, none⟩) n cap, .func (.func 57) #[] #[.pointer (some ⟨K, 0, none⟩)]] w (SortPost g n w (SortIs kf n d 0 n)) := by
  have HC := stable_any g cap n K kf p d w hr hn hris hp hcmp
  clear hr hcmp hp hris
  go_enter Try.func56, Try.ntmps56
  go_wp2_with fail
  refine HC.mono ?_
  clear HC
  rintro e w2 ⟨rfl, d2, hr2, ho2, hs2⟩
  have Z1 := Lib.hid hr2
  have Z2 := Lib.hid ho2
  have Z3 := Lib.hid hs2
  clear hr2 ho2 hs2
  go_wp2_with fail
  go_end0
  exact ⟨rfl, _, Z1.out, Z2.out, Z3.out⟩

set_option maxHeartbeats 1000000 in
theorem insertion_nil (F : Value) (w : World) : Calls Try.prog 61 #[.slice none 0 0, .int .i64 0, .int .i64 0, F] w fun e w' => e = .returned (.tuple #[]) ∧ w = w' := by
  go_enter Try.func61, Try.ntmps61
  go_wp2
  refine wp_loop_rounds 1 ?_
  rw [rounds_succ]
  go_wp2
  go_end0
  exact ⟨rfl, rfl⟩
set_option maxHeartbeats 1000000 in
theorem stable_nil (F : Value) (w : World) : Calls Try.prog 59 #[.slice none 0 0, .int .i64 0, F] w fun e w' => e = .returned (.tuple #[]) ∧ w = w' := by
  go_enter Try.func59, Try.ntmps59
  go_wp2
  refine wp_loop_rounds 1 ?_
  rw [rounds_succ]
  go_wp2_with (go_at_call 61; refine (insertion_nil _ _).mono ?_; rintro e w' ⟨rfl, rfl⟩)
  refine wp_loop_rounds 1 ?_
  rw [rounds_succ]
  go_wp2
  go_end0
  exact ⟨rfl, rfl⟩
set_option maxHeartbeats 1000000 in
theorem sortStable_nil (F : Value) (w : World) : Calls Try.prog 56 #[.slice none 0 0, F] w fun e w' => e = .returned (.tuple #[]) ∧ w = w' := by
  go_enter Try.func56, Try.ntmps56
  go_wp2_with (go_at_call 59; refine (stable_nil _ _).mono ?_; rintro e w' ⟨rfl, rfl⟩)
  go_end0
  exact ⟨rfl, rfl⟩

/-- What sorted leaves: the list itself, its numbers sorted; no other block has turned. -/
def SortedPost (g n cap : Nat) (kf d : Nat → Nat) (w : World) (e : Ending) (w' : World) : Prop :=
  e = .returned (.slice (some ⟨g, 0, none⟩) n cap) ∧ ∃ d', Rw w' g n d' ∧ SortIs kf n d 0 n d' ∧ Only g w w'

theorem cmps_of (B g K L : Nat) (ls : List Nat) (w : World) (hg : B ≤ g) (hne : K ≠ g) (hK : K < w.heap.size) (hc : w.cell? ⟨K, 0, none⟩ = some (.func (.func 51) #[] #[.pointer (some ⟨L, 0, none⟩)])) (hL : Lens B w L ls) :
    Cmps g (fun x => ls[x]?.getD 0) (fun x => x < ls.length) K w := by
  intro w' x y ho hx hy
  refine cmp_any B K L x y ls w' ?_ (hL.below (ho.belowB hg hL.size)) hx hy
  have e : w'.heap[K]? = w.heap[K]? := ho.block K hK hne
  unfold World.cell? at hc ⊢
  simp only at hc ⊢
  rw [e]; exact hc

set_option maxHeartbeats 1000000 in
theorem sorted_any (B g cap n L : Nat) (ls : List Nat) (d : Nat → Nat) (w : World) (hr : Rw w g n d) (hn : n ≤ 288) (hg : B ≤ g) (hL : Lens B w L ls) (hris : St.Ris (fun x => ls[x]?.getD 0) d n) (hp : ∀ i, i < n → d i < ls.length) :
    Calls Try.prog 50 #[.slice (some ⟨g, 0, none⟩) n cap, .func (.func 51) #[] #[.pointer (some ⟨L, 0, none⟩)]] w (SortedPost g n cap (fun x => ls[x]?.getD 0) d w) := by
  have hlt := hr.lt
  have hb := below1 w (.cells #[.func (.func 51) #[] #[.pointer (some ⟨L, 0, none⟩)]] 75)
  have hsz := hL.size
  have hc : (w.alloc (.cells #[.func (.func 51) #[] #[.pointer (some ⟨L, 0, none⟩)]] 75)).cell? ⟨w.heap.size, 0, none⟩ = some (.func (.func 51) #[] #[.pointer (some ⟨L, 0, none⟩)]) := (Has.new w _).one.1
  have hr1 : Rw (w.alloc (.cells #[.func (.func 51) #[] #[.pointer (some ⟨L, 0, none⟩)]] 75)) g n d :=
    ⟨by simp; omega, fun i hi => by rw [hb.cell (p := ⟨g, i, none⟩) hlt]; exact hr.cell i hi, fun i hi => by rw [hb.frozen (p := ⟨g, i, none⟩) hlt]; exact hr.free i hi⟩
  have hcm := cmps_of B g w.heap.size L ls _ hg (by omega) (by simp) hc (hL.below (hb.mono hsz))
  have HC := sortStable_any g cap n w.heap.size _ _ d _ hr1 hn hris hp hcm
  have HB := Lib.hid (only_alloc w g (.cells #[.func (.func 51) #[] #[.pointer (some ⟨L, 0, none⟩)]] 75))
  clear hr hris hp hL hc hr1 hcm hb
  go_enter Try.func50, Try.ntmps50
  go_wp2_with fail
  refine HC.mono ?_
  clear HC
  rintro e w2 ⟨rfl, d2, hr2, ho2, hs2⟩
  have Z1 := Lib.hid hr2
  have Z2 := Lib.hid ho2
  have Z3 := Lib.hid hs2
  clear hr2 ho2 hs2
  go_wp2_with fail
  go_ret
  exact ⟨rfl, d2, Z1.out, Z3.out, HB.out.trans Z2.out⟩

set_option maxHeartbeats 1000000 in
theorem sorted_nil (L : Nat) (w : World) :
    Calls Try.prog 50 #[.slice none 0 0, .func (.func 51) #[] #[.pointer (some ⟨L, 0, none⟩)]] w fun e w' => e = .returned (.slice none 0 0) ∧ Below w.heap.size w w' := by
  have hb := Lib.hid (below1 w (.cells #[.func (.func 51) #[] #[.pointer (some ⟨L, 0, none⟩)]] 75))
  go_enter Try.func50, Try.ntmps50
  go_wp2_with (go_at_call 56; refine (sortStable_nil _ _).mono ?_; rintro e w' ⟨rfl, rfl⟩)
  go_ret
  exact ⟨rfl, hb.out⟩
end Go.Proofs.Ytgffcffmhhdceaa
