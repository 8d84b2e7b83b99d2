/- Contracts of slices.rotateCmpFunc and insertionSortCmpFunc at int. -/
import Derived.Test.YtedbonnejgpjeaaLswap
namespace Go.Proofs.Ytedbonnejgpjeaa
open Go.RowKit

/-- What a turn of the row d between a, m and b is. -/
def RotIs (d : Nat → Nat) (a m b : Nat) (d' : Nat → Nat) : Prop := d' = St.rot d a m b ∧ St.Swaps a b d d'

/-- The turn under way: so much is left of both parts. -/
def RotOn (d : Nat → Nat) (a m b i j : Nat) (e : Nat → Nat) : Prop := 0 < i ∧ 0 < j ∧ a + i ≤ m ∧ m + j ≤ b ∧ St.rot e (m - i) m (m + j) = St.rot d a m b ∧ St.Swaps a b d e

theorem RotOn.start (d : Nat → Nat) (a m b : Nat) (h1 : a < m) (h2 : m < b) : RotOn d a m b (m - a) (b - m) d :=
  ⟨by omega, by omega, by omega, by omega, by rw [show m - (m - a) = a by omega, show m + (b - m) = b by omega], .refl _⟩
theorem RotOn.big {d e : Nat → Nat} {a m b i j : Nat} (h : RotOn d a m b i j e) (hlt : j < i) : RotOn d a m b (i - j) j (St.exch e (m - i) m j) := by
  obtain ⟨h1, h2, h3, h4, h5, h6⟩ := h
  refine ⟨by omega, h2, by omega, h4, ?_, h6.trans (St.exch_swaps _ _ _ _ _ _ (by omega) (by omega) (by omega))⟩
  rw [show m - (i - j) = m - i + j by omega, St.rot_big e m i j (by omega) hlt]; exact h5
theorem RotOn.less {d e : Nat → Nat} {a m b i j : Nat} (h : RotOn d a m b i j e) (hlt : i < j) : RotOn d a m b i (j - i) (St.exch e (m - i) (m + j - i) i) := by
  obtain ⟨h1, h2, h3, h4, h5, h6⟩ := h
  refine ⟨h1, by omega, h3, by omega, ?_, h6.trans (St.exch_swaps _ _ _ _ _ _ (by omega) (by omega) (by omega))⟩
  rw [show m + (j - i) = m + j - i by omega, St.rot_less e m i j (by omega) hlt]; exact h5
theorem RotOn.done {d e : Nat → Nat} {a m b i : Nat} (h : RotOn d a m b i i e) : RotIs d a m b (St.exch e (m - i) m i) := by
  obtain ⟨h1, h2, h3, h4, h5, h6⟩ := h
  refine ⟨?_, h6.trans (St.exch_swaps _ _ _ _ _ _ (by omega) (by omega) (by omega))⟩
  rw [St.rot_same e m i (by omega)]; exact h5

theorem swapRange_to (g cap n a b m : Nat) (F : Value) (d : Nat → Nat) (w : World) (hr : Rw w g n d) (hn : n ≤ 288) (hab : a + m ≤ b) (hbn : b + m ≤ n) (A B M : Int) (hA : A = (a : Int)) (hB : B = (b : Int)) (hM : M = (m : Int)) :
    Calls Try.prog 52 #[.slice (some ⟨g, 0, none⟩) n cap, .int .i64 A, .int .i64 B, .int .i64 M, F] w (SortPost g n w (fun d' => d' = St.exch d a b m)) := by
  subst hA hB hM
  exact swapRange_any g cap n a b m F d w hr hn hab hbn

set_option maxHeartbeats 1000000 in
theorem rotate_any (g cap n a m b : Nat) (F : Value) (d : Nat → Nat) (w : World) (hr : Rw w g n d) (hn : n ≤ 288) (ham : a < m) (hmb : m < b) (hbn : b ≤ n) :
    Calls Try.prog 51 #[.slice (some ⟨g, 0, none⟩) n cap, .int .i64 (a : Int), .int .i64 (m : Int), .int .i64 (b : Int), F] w (SortPost g n w (RotIs d a m b)) := by
  have HR := Lib.hid hr
  clear hr
  go_enter Try.func51, Try.ntmps51
  go_wp2
  go_loopw [10, 11] (fun s10 s11 wr => ∃ (i j : Nat) (e : Nat → Nat), s10 = .int .i64 i ∧ s11 = .int .i64 j ∧ Hid (RotOn d a m b i j e) ∧ Hid (Rw wr g n e) ∧ Hid (Only g w wr)) (fun s t _ => (intOf s).toNat + (intOf t).toNat)
  case atStart => exact ⟨m - a, b - m, d, by go_num, by go_num, RotOn.start d a m b ham hmb, HR, Only.refl _ _⟩
  case round =>
    obtain ⟨i, j, e, rfl, rfl, KI, KR, KO⟩ := hrel
    have i1 := KI.out.1
    have i2 := KI.out.2.1
    have i3 := KI.out.2.2.1
    have i4 := KI.out.2.2.2.1
    rcases Nat.lt_trichotomy i j with hlt | hlt | hlt
    · have hb : ((i : Int) != (j : Int)) = true := by rw [bne_iff_ne]; omega
      go_wp2_with fail
      refine (swapRange_to g cap n (m - i) (m + j - i) i F e wr KR.out hn (by omega) (by omega) _ _ _ (by omega) (by omega) rfl).mono ?_
      rintro e' w2 ⟨rfl, d2, hr2, ho2, rfl⟩
      have KR2 := Lib.hid hr2
      have KO2 := Lib.hid (KO.out.trans ho2)
      clear hr2 ho2
      go_wp2_with fail
      go_roundw
      case rel => exact ⟨i, j - i, _, rfl, by go_num, KI.out.less hlt, KR2, KO2⟩
      case measure => simp [intOf]; omega
    · subst hlt
      have hb : ((i : Int) != (i : Int)) = false := by simp
      go_wp2_with fail
      refine (swapRange_to g cap n (m - i) m i F e wr KR.out hn (by omega) (by omega) _ _ _ (by omega) (by omega) rfl).mono ?_
      rintro e' w2 ⟨rfl, d2, hr2, ho2, rfl⟩
      have KR2 := Lib.hid hr2
      have KO2 := Lib.hid (KO.out.trans ho2)
      clear hr2 ho2
      go_wp2_with fail
      go_end0
      exact ⟨rfl, _, KR2.out, KO2.out, KI.out.done⟩
    · have hb : ((i : Int) != (j : Int)) = true := by rw [bne_iff_ne]; omega
      go_wp2_with fail
      refine (swapRange_to g cap n (m - i) m j F e wr KR.out hn (by omega) (by omega) _ _ _ (by omega) (by omega) rfl).mono ?_
      rintro e' w2 ⟨rfl, d2, hr2, ho2, rfl⟩
      have KR2 := Lib.hid hr2
      have KO2 := Lib.hid (KO.out.trans ho2)
      clear hr2 ho2
      go_wp2_with fail
      go_roundw
      case rel => exact ⟨i - j, j, _, by go_num, rfl, KI.out.big hlt, KR2, KO2⟩
      case measure => simp [intOf]; omega
end Go.Proofs.Ytedbonnejgpjeaa
