/- Contract of slices.insertionSortCmpFunc at int. -/
import Derived.Test.YtedbonnejgpjeaaLrot
namespace Go.Proofs.Ytedbonnejgpjeaa
open Go.RowKit

/-- The closure that a sort is handed compares by kf, in whatever world the sort comes to. -/
def Cmps (g : Nat) (kf : Nat → Nat) (p : Nat → Prop) (w : World) : Prop :=
  ∀ w' (x y : Nat), Only g w w' → p x → p y → Calls Try.prog 33 #[.pointer (some ⟨x, 0, none⟩), .pointer (some ⟨y, 0, none⟩)] w' (CmpPost w' (cmpv (kf x) (kf y)))

theorem Cmps.later {g : Nat} {kf : Nat → Nat} {p : Nat → Prop} {w w1 : World} (h : Cmps g kf p w) (ho : Only g w w1) : Cmps g kf p w1 := fun w' x y h1 h2 h3 => h w' x y (ho.trans h1) h2 h3

theorem quiet_cmp {P : Program} {f : FuncId} {args : Array Value} {w : World} {n : Nat} {c : Int}
    (h : Calls P f args (w.drewN n) (CmpPost (w.drewN n) c)) : Calls P f args (w.drewN n) fun e w'' => e = .returned (.int .i64 c) ∧ ∃ m, w'' = w.drewN m :=
  h.mono fun _ _ ⟨he, k, hm⟩ => ⟨he, n + k, by rw [hm, World.drewN_drewN]⟩

/-- What the closure says, as the walk wants it: a number, and whether it is below 0. -/
theorem Cmps.at {g n i j : Nat} {kf : Nat → Nat} {p : Nat → Prop} {w w' : World} {d : Nat → Nat} (h : Cmps g kf p w) (ho : Only g w w') (hp : ∀ i, i < n → p (d i)) (hi : i < n) (hj : j < n) :
    ∃ c : Int, decide (c < 0) = decide (kf (d i) < kf (d j)) ∧ ∀ m, Calls Try.prog 33 #[.pointer (some ⟨d i, 0, none⟩), .pointer (some ⟨d j, 0, none⟩)] (w'.drewN m) (CmpPost (w'.drewN m) c) :=
  ⟨cmpv (kf (d i)) (kf (d j)), cmpv_neg _ _, fun m => h _ _ _ (only_drewN ho m) (hp i hi) (hp j hj)⟩

theorem row_swap_on {w w1 : World} {g n : Nat} {e : Nat → Nat} (h : Rw w1 g n e) (ho : Only g w w1) (m i j x y : Nat) (hx : x = e i) (hy : y = e j) (hi : i < n) (hj : j < n) (hne : i ≠ j) :
    Rw (((w1.drewN m).setCell ⟨g, i, none⟩ (.pointer (some ⟨y, 0, none⟩))).setCell ⟨g, j, none⟩ (.pointer (some ⟨x, 0, none⟩))) g n (St.sw e i j) ∧
      Only g w (((w1.drewN m).setCell ⟨g, i, none⟩ (.pointer (some ⟨y, 0, none⟩))).setCell ⟨g, j, none⟩ (.pointer (some ⟨x, 0, none⟩))) := by
  subst hx hy
  exact ⟨(h.drewN m).swap i j hi hj hne, ((ho.trans (only_drewN (Only.refl _ _) m)).trans (only_set _ _ _ _)).trans (only_set _ _ _ _)⟩

/-- What a sort of [a, b) gives. -/
def SortIs (kf : Nat → Nat) (n : Nat) (d : Nat → Nat) (a b : Nat) (d' : Nat → Nat) : Prop := St.Swaps a b d d' ∧ St.Ris kf d' n ∧ St.Srt kf d' a b

/-- The insertion sort under way. -/
def InsOut (kf : Nat → Nat) (n : Nat) (d : Nat → Nat) (a b i : Nat) (e : Nat → Nat) : Prop := St.Swaps a b d e ∧ St.Ris kf e n ∧ St.Srt kf e a i
def InsIn (kf : Nat → Nat) (n : Nat) (d : Nat → Nat) (a b i j : Nat) (e : Nat → Nat) : Prop := St.Swaps a b d e ∧ St.Ris kf e n ∧ St.Ins kf e a i j

theorem InsOut.start {kf d : Nat → Nat} {n a b : Nat} (h : St.Ris kf d n) : InsOut kf n d a b (a + 1) d := ⟨.refl _, h, fun p q h1 h2 h3 => by omega⟩
theorem InsOut.into {kf d e : Nat → Nat} {n a b i : Nat} (h : InsOut kf n d a b i e) : InsIn kf n d a b i i e := ⟨h.1, h.2.1, .start h.2.2⟩
theorem InsOut.done {kf d e : Nat → Nat} {n a b i : Nat} (h : InsOut kf n d a b i e) (hi : b ≤ i) : SortIs kf n d a b e := ⟨h.1, h.2.1, h.2.2.sub (Nat.le_refl _) hi⟩
theorem InsIn.first {kf d e : Nat → Nat} {n a b i : Nat} (h : InsIn kf n d a b i a e) : InsOut kf n d a b (i + 1) e := ⟨h.1, h.2.1, h.2.2.first⟩
theorem InsIn.stop {kf d e : Nat → Nat} {n a b i j : Nat} (h : InsIn kf n d a b i j e) (hj : a < j) (hji : j ≤ i) (hge : ¬ kf (e j) < kf (e (j - 1))) : InsOut kf n d a b (i + 1) e := ⟨h.1, h.2.1, h.2.2.stop hj hji hge⟩
theorem InsIn.step {kf d e : Nat → Nat} {n a b i j : Nat} (h : InsIn kf n d a b i j e) (hj : a < j) (hji : j ≤ i) (hib : i < b) (hbn : b ≤ n) (hlt : kf (e j) < kf (e (j - 1))) : InsIn kf n d a b i (j - 1) (St.sw e j (j - 1)) :=
  ⟨.step h.1 (by omega) (by omega) (by omega) (by omega), h.2.1.step (by omega) (by omega) hlt, h.2.2.step hj hji hlt⟩

set_option maxHeartbeats 2000000 in
theorem insertion_any (g cap n a b : Nat) (kf : Nat → Nat) (p : Nat → Prop) (d : Nat → Nat) (w : World) (hr : Rw w g n d) (hn : n ≤ 288) (hbn : b ≤ n) (hab : a ≤ 288) (hris : St.Ris kf d n) (hp : ∀ i, i < n → p (d i)) (hcmp : Cmps g kf p w) :
    Calls Try.prog 47 #[.slice (some ⟨g, 0, none⟩) n cap, .int .i64 (a : Int), .int .i64 (b : Int), .func (.func 33) #[] #[]] w (SortPost g n w (SortIs kf n d a b)) := by
  have HR := Lib.hid hr
  have HC := Lib.hid hcmp
  have HP := Lib.hid hp
  have HS := Lib.hid hris
  clear hr hcmp hp hris
  go_enter Try.func47, Try.ntmps47
  go_wp2
  go_loopw [8] (fun s8 wr => ∃ (i : Nat) (e : Nat → Nat), a < i ∧ i ≤ 289 ∧ s8 = .int .i64 i ∧ Hid (InsOut kf n d a b i e) ∧ Hid (Rw wr g n e) ∧ Hid (Only g w wr)) (fun s _ => b - (intOf s).toNat)
  case atStart => exact ⟨a + 1, d, by omega, by omega, by go_num, InsOut.start HS.out, HR, Only.refl _ _⟩
  case round =>
    obtain ⟨i, e, hi, hi2, rfl, KI, KR, KO⟩ := hrel
    by_cases hlt : i < b
    · go_wp2
      go_loopw [9] (fun s9 wx => ∃ (j : Nat) (e : Nat → Nat), a ≤ j ∧ j ≤ i ∧ s9 = .int .i64 j ∧ Hid (InsIn kf n d a b i j e) ∧ Hid (Rw wx g n e) ∧ Hid (Only g w wx)) (fun s _ => (intOf s).toNat)
      case atStart => exact ⟨i, e, by omega, by omega, rfl, KI.out.into, KR, KO⟩
      case round =>
        clear KI KR KO
        obtain ⟨j, e2, hj1, hj2, rfl, KI, KR, KO⟩ := hrel
        by_cases hja : a < j
        · have hd : decide (a < j) = true := by simpa using hja
          have c1 := KR.out.cell j (by omega)
          have c2 := KR.out.cell (j - 1) (by omega)
          have f1 := KR.out.free j (by omega)
          have f2 := KR.out.free (j - 1) (by omega)
          have hpe : ∀ k, k < n → p (e2 k) := KI.out.1.all hbn p HP.out
          obtain ⟨c, hc, hcall⟩ := HC.out.at KO.out hpe (i := j) (j := j - 1) (by omega) (by omega)
          obtain ⟨x, hx⟩ : ∃ x, x = e2 j := ⟨_, rfl⟩
          obtain ⟨y, hy⟩ : ∃ y, y = e2 (j - 1) := ⟨_, rfl⟩
          rw [← hx, ← hy] at hc hcall
          rw [← hx] at c1
          rw [← hy] at c2
          have HX := Lib.hid hx
          have HY := Lib.hid hy
          clear hx hy hpe
          by_cases hk : kf x < kf y
          · have h0 : decide (c < 0) = true := by rw [hc]; simpa using hk
            have HK := Lib.hid hk
            clear hc hk
            go_wp2
            go_quiet ((go_at_call 33; exact quiet_cmp (hcall _)))
            clear hcall
            go_wp2
            go_region
            go_wp2
            all_goals
              go_roundw
              case rel =>
                have st := row_swap_on KR.out KO.out (nq + 1) j (j - 1) x y HX.out HY.out (by omega) (by omega) (by omega)
                exact ⟨j - 1, St.sw e2 j (j - 1), by omega, by omega, by go_num, KI.out.step hja hj2 hlt hbn (by rw [← HX.out, ← HY.out]; exact HK.out), st.1, st.2⟩
              case measure => simp [intOf]; omega
          · have h0 : decide (c < 0) = false := by rw [hc]; simpa using hk
            have HK := Lib.hid hk
            clear hc hk
            go_wp2
            go_quiet ((go_at_call 33; exact quiet_cmp (hcall _)))
            clear hcall
            go_wp2
            go_roundw
            case rel => exact ⟨i + 1, e2, by omega, by omega, by go_num, KI.out.stop hja hj2 (by rw [← HX.out, ← HY.out]; exact HK.out), KR.out.drewN _, KO.out.trans (only_drewN (Only.refl _ _) _)⟩
            case measure => simp [intOf]; omega
        · obtain rfl : j = a := by omega
          have hd : decide (j < j) = false := by simp
          go_wp2
          go_quiet (fail)
          go_wp2
          go_roundw
          case rel => exact ⟨i + 1, e2, by omega, by omega, by go_num, KI.out.first, KR.out.drewN _, KO.out.trans (only_drewN (Only.refl _ _) _)⟩
          case measure => simp [intOf]; omega
    · go_wp2
      go_end0
      exact ⟨rfl, _, KR.out, KO.out, KI.out.done (by omega)⟩
end Go.Proofs.Ytedbonnejgpjeaa
