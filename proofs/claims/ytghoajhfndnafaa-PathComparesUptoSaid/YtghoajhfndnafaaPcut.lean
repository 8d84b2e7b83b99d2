/- strings.Cut at one byte 47; path.cutter and the closure that it hands back. -/
import Derived.Test.YtghoajhfndnafaaPplain
import Derived.Test.YtghoajhfndnafaaMem
import Derived.Test.YtghoajhfndnafaaShelf
import Derived.Shelf.RegionOpenPlain
import Derived.Lib.Walk
import Derived.Lib.Strings
import Derived.Lib.Slices
import Derived.BigCall
import Derived.BigGuard
import Derived.Deep.Draws
import Derived.Laws.Strings3

namespace Go.Proofs.Ytghoajhfndnafaa
set_option maxRecDepth 100000
open Go.RowKit

namespace Pn
/-- A text cut at its first 47. -/
def cut : Tx → Tx × Tx × Bool
  | [] => ([], [], false)
  | c :: cs => if c = 47 then ([], cs, true) else (c :: (cut cs).1, (cut cs).2.1, (cut cs).2.2)
theorem cut_index (s : Tx) : (Lib.indexByte s 47 = -1 ∧ (47 : UInt8) ∉ s ∧ cut s = (s, [], false)) ∨ ∃ i : Nat, Lib.indexByte s 47 = (i : Int) ∧ i < s.length ∧ cut s = (s.take i, s.drop (i + 1), true) ∧ s = s.take i ++ 47 :: s.drop (i + 1) ∧ (47 : UInt8) ∉ s.take i := by
  induction s with
  | nil => exact Or.inl ⟨rfl, by simp, rfl⟩
  | cons c cs ih =>
    by_cases h : c = 47
    · subst h
      exact Or.inr ⟨0, by simp [Lib.indexByte], by simp, by simp [cut], by simp, by simp⟩
    · have hb : (c == 47) = false := by simpa using h
      rcases ih with ⟨h1, h2, h3⟩ | ⟨i, h1, h2, h3, h4, h5⟩
      · refine Or.inl ⟨by simp [Lib.indexByte, hb, h1], ?_, by simp [cut, h, h3]⟩
        intro hm
        rcases List.mem_cons.1 hm with hm | hm
        · exact h hm.symm
        · exact h2 hm
      · refine Or.inr ⟨i + 1, ?_, by simpa using h2, by simp [cut, h, h3], ?_, ?_⟩
        · simp [Lib.indexByte, hb, h1]
        · rw [List.take_succ_cons, List.drop_succ_cons, List.cons_append, ← h4]
        · rw [List.take_succ_cons]
          intro hm
          rcases List.mem_cons.1 hm with hm | hm
          · exact h hm.symm
          · exact h5 hm
theorem pieces_by_cut (s : Tx) : pieces s = (cut s).1 :: (if (cut s).2.2 then pieces (cut s).2.1 else []) := by
  rcases cut_index s with ⟨_, h2, h3⟩ | ⟨i, _, _, h3, h4, h5⟩
  · rw [h3, pieces_plain s h2]; rfl
  · rw [h3]
    show pieces s = s.take i :: pieces (s.drop (i + 1))
    conv => lhs; rw [h4]
    exact pieces_cut _ _ h5
theorem cut_le (s : Tx) : (cut s).1.length ≤ s.length ∧ (cut s).2.1.length ≤ s.length := by
  rcases cut_index s with ⟨_, h2, h3⟩ | ⟨i, _, _, h3, h4, h5⟩
  · rw [h3]; simp
  · rw [h3]; simp; omega
theorem cut_lt (s : Tx) (h : (cut s).2.2 = true) : (cut s).2.1.length < s.length := by
  rcases cut_index s with ⟨_, h2, h3⟩ | ⟨i, _, hi, h3, h4, h5⟩
  · rw [h3] at h; simp at h
  · rw [h3]; simp; omega
end Pn

theorem bx_take (s : Tx) (i : Nat) : (bx s).extract 0 i = bx (s.take i) := by
  apply ByteArray.ext
  simp [bx]
theorem bx_drop (s : Tx) (i : Nat) : (bx s).extract i (bx s).size = bx (s.drop i) := by
  apply ByteArray.ext
  simp only [bx, ByteArray.data_extract, ByteArray.size]
  apply Array.ext'
  simp [List.take_of_length_le]

set_option maxHeartbeats 2000000 in
theorem slcut_any (s : Tx) (w : World) (hs : s.length ≤ 9223372036854775807) :
    Calls Try.prog 51 #[.string (bx s), .string ⟨#[47]⟩] w fun e w' => e = .returned (.tuple #[.string (bx (Pn.cut s).1), .string (bx (Pn.cut s).2.1), .bool (Pn.cut s).2.2]) ∧ ∃ n, w' = w.drewN n := by
  rcases Pn.cut_index s with ⟨h1, _, h3⟩ | ⟨i, h1, h2, h3, _, _⟩
  · rw [h3]
    obtain ⟨S, hS⟩ : ∃ S, bx s = S := ⟨_, rfl⟩
    have hl : Lib.indexByte S.data.toList 47 = -1 := by rw [← hS, bx_list]; exact h1
    rw [hS]
    clear h1 h3 hs
    go_enter Try.func51, Try.ntmps51
    go_wp2_with (go_at_call 55; refine (Try.stringslite_Index_one _ _ _).mono ?_; rintro e w' ⟨rfl, rfl⟩; rw [hl])
    go_ret3
    exact ⟨rfl, 0, rfl⟩
  · rw [h3]
    obtain ⟨S, hS⟩ : ∃ S, bx s = S := ⟨_, rfl⟩
    have hl : Lib.indexByte S.data.toList 47 = (i : Int) := by rw [← hS, bx_list]; exact h1
    have e1 : bx (s.take i) = S.extract 0 i := by rw [← hS, bx_take]
    have e2 : bx (s.drop (i + 1)) = S.extract (i + 1) S.size := by rw [← hS, bx_drop]
    have hz : S.size = s.length := by rw [← hS, bx_size]
    rw [hS, e1, e2]
    clear h3 e1 e2 h1 hS
    have mixed : Try.prog.follows .mixedOrders = true := by kernel_rfl
    have hw : IntKind.i64.wrap ((i : Int) + 1) = (i : Int) + 1 := IntWalk.i64_in _ (by omega)
    have c1 : (0 : Int) ≤ ↑i := by omega
    have c2 : (↑i : Int) ≤ ↑S.size := by omega
    have c3 : (0 : Int) ≤ ↑i + 1 := by omega
    have c4 : (↑i + 1 : Int) ≤ ↑S.size := by omega
    clear hs h2 hz
    go_enter Try.func51, Try.ntmps51
    go_wp2_with (go_at_call 55; refine (Try.stringslite_Index_one _ _ _).mono ?_; rintro e w' ⟨rfl, rfl⟩; rw [hl])
    go_region_o
    go_wp2
    go_ret3
    exact ⟨rfl, 1, rfl⟩

theorem cut_any (s : Tx) (w : World) (hs : s.length ≤ 9223372036854775807) :
    Calls Try.prog 47 #[.string (bx s), .string ⟨#[47]⟩] w fun e w' => e = .returned (.tuple #[.string (bx (Pn.cut s).1), .string (bx (Pn.cut s).2.1), .bool (Pn.cut s).2.2]) ∧ ∃ n, w' = w.drewN n := by
  have HC := Lib.hid (slcut_any s w hs)
  obtain ⟨S, hS⟩ : ∃ S, bx s = S := ⟨_, rfl⟩
  obtain ⟨A, hA⟩ : ∃ A, bx (Pn.cut s).1 = A := ⟨_, rfl⟩
  obtain ⟨B, hB⟩ : ∃ B, bx (Pn.cut s).2.1 = B := ⟨_, rfl⟩
  obtain ⟨z, hz⟩ : ∃ z, (Pn.cut s).2.2 = z := ⟨_, rfl⟩
  rw [hS, hA, hB, hz] at HC ⊢
  clear hS hA hB hz hs
  go_enter Try.func47, Try.ntmps47
  go_wp2_with (go_at_call 51; refine HC.out.mono ?_; rintro e w' ⟨rfl, n, rfl⟩)
  go_ret3
  exact ⟨rfl, _, rfl⟩
end Go.Proofs.Ytghoajhfndnafaa
