/- path.Name and path.mayBe. -/
import Derived.Test.YtghoajhfndnafaaPiter
import Derived.Laws.RangeAny
import Derived.LoopTactic
import Derived.Scope

namespace Go.Proofs.Ytghoajhfndnafaa
set_option maxRecDepth 100000
open Go.RowKit

/-- What an error's number is. -/
def ec (b : Bool) : Int := if b then 0 else 8

theorem all_take_succ (s : Tx) (k : Nat) (h : k < s.length) (p : UInt8 → Bool) : (s.take (k + 1)).all p = ((s.take k).all p && p (s[k]'h)) := by
  rw [List.take_succ_eq_append_getElem h, List.all_append]
  simp
theorem all_bad (s : Tx) (k : Nat) (h : k < s.length) (p : UInt8 → Bool) (hb : p (s[k]'h) = false) : s.all p = false := by
  rw [List.all_eq_false]
  exact ⟨s[k]'h, List.getElem_mem h, by rw [hb]; simp⟩

/-- What the loop over a name's runes meets at a byte. -/
theorem rune_at (s : Tx) (pos : Nat) (h : pos < s.length) : ∃ r k : Nat, Utf8.decode (bx s) pos = (r, k) ∧
    ((Pn.okc (s[pos]'h) = true ∧ k = 1 ∧ 32 ≤ r ∧ r ≤ 126 ∧ r ≠ 47 ∧ r ≠ 92) ∨ (Pn.okc (s[pos]'h) = false ∧ (r < 32 ∨ (32 ≤ r ∧ 126 < r) ∨ r = 47 ∨ r = 92))) := by
  have hb : pos < (bx s).size := by rw [bx_size]; exact h
  have hc : (bx s)[pos]'hb = s[pos]'h := by simp [bx, ByteArray.getElem_eq_getElem_data]
  by_cases ha : ((bx s)[pos]'hb).toNat < 128
  · refine ⟨_, _, decode_ascii (bx s) pos hb ha, ?_⟩
    rw [hc] at ha ⊢
    generalize s[pos]'h = c at ha
    cases hk : Pn.okc c
    · refine Or.inr ⟨rfl, ?_⟩
      simp only [Pn.okc, Bool.and_eq_false_iff, decide_eq_false_iff_not, Bool.not_eq_false', beq_iff_eq] at hk
      omega
    · refine Or.inl ⟨rfl, rfl, ?_⟩
      simp only [Pn.okc, Bool.and_eq_true, decide_eq_true_eq, Bool.not_eq_true', beq_eq_false_iff_ne] at hk
      omega
  · obtain ⟨h1, _⟩ := decode_high (bx s) pos hb (by omega)
    cases e : Utf8.decode (bx s) pos with
    | mk r k =>
    rw [e] at h1
    have h1' : 128 ≤ r := h1
    refine ⟨r, k, rfl, Or.inr ⟨?_, Or.inr (Or.inl ⟨by omega, by omega⟩)⟩⟩
    rw [hc] at ha
    simp only [Pn.okc, Bool.and_eq_false_iff, decide_eq_false_iff_not]
    exact Or.inl (Or.inl (Or.inr (by omega)))

set_option maxRecDepth 100000 in
set_option maxHeartbeats 4000000 in
theorem name_any (s : Tx) (w : World) :
    Calls Try.prog 15 #[.string (bx s)] w fun e w' => e = .returned (.int .i64 (ec (Pn.name s))) ∧ Below w.heap.size w w' := by
  have hl := bx_toList s
  have hz := bx_size s
  have HR := Lib.hid (fun pos h => rune_at s pos h)
  have HI := Lib.hid (fun (w : World) pos ty h => run_next_any (P := Try.prog) w (bx s) pos ty h)
  obtain ⟨S, hS⟩ : ∃ S, S = bx s := ⟨_, rfl⟩
  rw [← hS] at hl hz HR HI ⊢
  clear hS
  have back : ∀ W, Pn.name s = false → Below w.heap.size w W → ((.returned (.int .i64 8) : Ending) = .returned (.int .i64 (ec (Pn.name s))) ∧ Below w.heap.size w W) := fun W h hb => ⟨by rw [h]; rfl, hb⟩
  by_cases h1 : s = []
  · subst h1
    go_enter Try.func15, Try.ntmps15
    go_wp2_with fail
    go_ret
    exact back _ rfl (Below.refl _ _)
  have e1 : s.isEmpty = false := by cases s <;> simp_all
  by_cases h2 : 32 < s.length
  · have h2' : decide (((s.length : Nat) : Int) > 32) = true := by simp; omega
    have HB := Lib.hid (fun W => back W (by simp [Pn.name]; omega))
    clear back
    go_enter Try.func15, Try.ntmps15
    go_wp2_with fail
    go_ret
    exact HB.out _ (Below.refl _ _)
  have h2' : decide (((s.length : Nat) : Int) > 32) = false := by simp; omega
  by_cases h3 : s = [46]
  · subst h3
    have HB := Lib.hid (fun W => back W rfl)
    clear back
    go_enter Try.func15, Try.ntmps15
    go_wp2_with fail
    go_ret
    exact HB.out _ (Below.refl _ _)
  by_cases h4 : s = [46, 46]
  · subst h4
    have HB := Lib.hid (fun W => back W rfl)
    clear back
    go_enter Try.func15, Try.ntmps15
    go_wp2_with fail
    go_ret
    exact HB.out _ (Below.refl _ _)
  have e3 : (s == [46]) = false := by simpa using h3
  have e4 : (s == [46, 46]) = false := by simpa using h4
  have hn : Pn.name s = s.all Pn.okc := by
    unfold Pn.name
    rw [e3, e4]
    have : 1 ≤ s.length := by cases s <;> simp_all
    simp
    omega
  have HN := Lib.hid hn
  have HB := Lib.hid back
  obtain ⟨N, hN⟩ : ∃ N, N = s.length := ⟨_, rfl⟩
  rw [← hN] at hz h2'
  have HZ := Lib.hid hN
  clear h1 h2 h3 h4 hn back hN
  go_enter Try.func15, Try.ntmps15
  go_wp2_with fail
  have HHI := fun pos ty h => HI.out w pos ty h
  have HEN := fun pos ty h => run_next_end (P := Try.prog) w S pos ty h
  have HX := Lib.hid HHI
  have HY := Lib.hid HEN
  clear HI HHI HEN
  have HB2 := Lib.hid (fun pos => ((Below.refl w.heap.size w).alloc (Nat.le_refl _) (.stringIter S pos) : Below w.heap.size w (w.iter S pos)))
  go_loopw [4] (fun _ wr => ∃ pos : Nat, wr = w.iter S pos ∧ Hid (pos ≤ N ∧ (s.take pos).all Pn.okc = true)) (fun _ wr => S.size - wr.iterPos w.heap.size)
  case atStart => exact ⟨0, rfl, Nat.zero_le _, rfl⟩
  case round =>
    obtain ⟨pos, rfl, HP⟩ := hrel
    by_cases hp : pos < N
    · have hp1 : pos < S.size := by rw [hz]; exact hp
      have hp2 : pos < s.length := by rw [← HZ.out]; exact hp
      obtain ⟨r, k, hd, hcase⟩ := HR.out pos hp2
      have hnx : ∀ ty, (Instr.next (.pointer (some ⟨w.heap.size, 0, none⟩)) true ty).run Try.prog (w.iter S pos) = .ok (.tuple #[.bool true, .int .i64 pos, .int .i32 r]) (w.iter S (pos + k)) := fun ty => by
        rw [HX.out pos ty hp1, hd]
      rcases hcase with ⟨g1, rfl, g2, g3, g4, g5⟩ | ⟨g1, hbad⟩
      · have HT : Hid (pos + 1 ≤ N ∧ (s.take (pos + 1)).all Pn.okc = true) := ⟨hp, by rw [all_take_succ s pos hp2, HP.out.2, g1]; rfl⟩
        have q1 : ((r : Int) < 32) = False := by simp; omega
        have q2 : (126 < (r : Int)) = False := by simp; omega
        have q3 : ((r : Int) == 47) = false := by simp; omega
        have q4 : ((r : Int) == 92) = false := by simp; omega
        have HP1 := Lib.hid hp1
        clear hd g1 g2 g3 g4 g5 hp hp2 HP hp1
        go_wp2_with fail
        go_roundw
        case rel => exact ⟨pos + 1, rfl, HT⟩
        case measure =>
          have := HP1.out
          simp
          omega
      · have HF : Hid (Pn.name s = false) := by show _ = _; rw [HN.out]; exact all_bad s pos hp2 _ g1
        clear hd g1 hp hp2 hp1 HP
        have QB := Lib.hid (HB.out _ HF.out (HB2.out (pos + k)))
        rcases hbad with h | ⟨h, h'⟩ | rfl | rfl
        · have q1 : ((r : Int) < 32) = True := by simp; omega
          clear h
          go_wp2_with fail
          go_ret
          exact QB.out
        · have q1 : ((r : Int) < 32) = False := by simp; omega
          have q2 : (126 < (r : Int)) = True := by simp; omega
          clear h h'
          go_wp2_with fail
          go_ret
          exact QB.out
        · go_wp2_with fail
          go_ret
          exact QB.out
        · go_wp2_with fail
          go_ret
          exact QB.out
    · have hnx : ∀ ty, (Instr.next (.pointer (some ⟨w.heap.size, 0, none⟩)) true ty).run Try.prog (w.iter S pos) = _ := fun ty => HY.out pos ty (by rw [hz]; exact hp)
      have HF : Hid (Pn.name s = true) := by
        show _ = _
        obtain ⟨a1, a2⟩ := HP.out
        rw [HN.out, ← a2, List.take_of_length_le (by rw [← HZ.out]; omega)]
      clear hp HP
      go_wp2_with fail
      go_ret
      rw [HF.out]
      exact ⟨rfl, HB2.out _⟩
end Go.Proofs.Ytghoajhfndnafaa
