/- What was laid down as an end is read, in plain lists. -/
import Derived.Test.YtheffpihhmdceaaNlives
import Derived.Test.YtheffpihhmdceaaNarg


namespace Go.Proofs.Ytheffpihhmdceaa
set_option maxRecDepth 100000
open Go.ChangeShapes Go.WideShapes Go.ChangeAt Go.RowKit

theorem le2_nm (n : Nat) (h : n < 65536) : nm (Fd.le 2 n) = n := by
  show n / 1 % 256 + 256 * (n / 256 % 256) = n
  omega
theorem le4_nm (n : Nat) (h : n < 4294967296) : nm (Fd.le 4 n) = n := by
  show n / 1 % 256 + 256 * (n / 256 % 256) + 65536 * (n / 65536 % 256) + 16777216 * (n / 16777216 % 256) = n
  omega
/-- The number at a place of rows one behind the other. -/
theorem g2_at (p q r : List Nat) (k n : Nat) (hk : p.length = k) (hq : q = Fd.le 2 n) (hn : n < 65536) : g2 (p ++ (q ++ r)) k = (n : Int) := by
  unfold g2
  rw [← hk, List.drop_left, hq, List.take_left' (Fd.le_length 2 n), le2_nm n hn]
theorem g4_at (p q r : List Nat) (k n : Nat) (hk : p.length = k) (hq : q = Fd.le 4 n) (hn : n < 4294967296) : g4 (p ++ (q ++ r)) k = (n : Int) := by
  unfold g4
  rw [← hk, List.drop_left, hq, List.take_left' (Fd.le_length 4 n), le4_nm n hn]

theorem rdE_back (c s a : Int) (h : okE c s a = true) (ah ms : List Nat) : rdE (ah ++ endB c s a ++ ms) (ah.length : Int) = ⟨0, c, s, a⟩ := by
  have hh : (0 ≤ c ∧ c ≤ 65535) ∧ Fd.isn s = true ∧ Fd.isn a = true := by
    unfold okE at h
    simp only [Bool.and_eq_true, decide_eq_true_eq] at h
    exact ⟨h.1.1, h.1.2, h.2⟩
  obtain ⟨⟨c0, c1⟩, hs, ha⟩ := hh
  obtain ⟨s0, s1⟩ := Fd.isn_of hs
  obtain ⟨a0, a1⟩ := Fd.isn_of ha
  have hx : (ah ++ endB c s a ++ ms).drop ah.length = [80, 75, 5, 6] ++ Fd.le 2 0 ++ Fd.le 2 0 ++ Fd.le 2 c.toNat ++ Fd.le 2 c.toNat ++ Fd.le 4 s.toNat ++ Fd.le 4 a.toNat ++ Fd.le 2 0 ++ ms := by
    rw [List.append_assoc, List.drop_left, end_is]
  have hl : (ah ++ endB c s a ++ ms).length = ah.length + 22 + ms.length := by
    rw [end_is]; simp only [List.length_append, Fd.le_length, List.length_cons, List.length_nil]
  have hp : pe (ah ++ endB c s a ++ ms).length (ah.length : Int) 22 = 0 := by
    unfold pe
    rw [hl, if_neg (by omega), if_neg (by omega)]
  unfold rdE
  rw [show ((ah.length : Int).toNat) = ah.length from by omega, hx, hp]
  obtain ⟨C, hC⟩ : ∃ C, C = Fd.le 2 c.toNat := ⟨_, rfl⟩
  obtain ⟨S, hS⟩ : ∃ S, S = Fd.le 4 s.toNat := ⟨_, rfl⟩
  obtain ⟨A, hA⟩ : ∃ A, A = Fd.le 4 a.toNat := ⟨_, rfl⟩
  obtain ⟨Z, hZ⟩ : ∃ Z, Z = Fd.le 2 0 := ⟨_, rfl⟩
  have lC : C.length = 2 := by rw [hC, Fd.le_length]
  have lS : S.length = 4 := by rw [hS, Fd.le_length]
  have lA : A.length = 4 := by rw [hA, Fd.le_length]
  have lZ : Z.length = 2 := by rw [hZ, Fd.le_length]
  rw [← hC, ← hS, ← hA, ← hZ]
  obtain ⟨P, hP⟩ : ∃ P : List Nat, P = [80, 75, 5, 6] := ⟨_, rfl⟩
  have lP : P.length = 4 := by rw [hP]; rfl
  rw [← hP]
  have t4 : (P ++ Z ++ Z ++ C ++ C ++ S ++ A ++ Z ++ ms).take 4 = P := by
    simp only [List.append_assoc]
    rw [List.take_left' lP]
  have q4 : g2 (P ++ Z ++ Z ++ C ++ C ++ S ++ A ++ Z ++ ms) 4 = (0 : Nat) := by
    have := g2_at P Z (Z ++ C ++ C ++ S ++ A ++ Z ++ ms) 4 0 lP hZ (by omega)
    simpa only [List.append_assoc] using this
  have q6 : g2 (P ++ Z ++ Z ++ C ++ C ++ S ++ A ++ Z ++ ms) 6 = (0 : Nat) := by
    have := g2_at (P ++ Z) Z (C ++ C ++ S ++ A ++ Z ++ ms) 6 0 (by simp [lP, lZ]) hZ (by omega)
    simpa only [List.append_assoc] using this
  have q8 : g2 (P ++ Z ++ Z ++ C ++ C ++ S ++ A ++ Z ++ ms) 8 = (c.toNat : Nat) := by
    have := g2_at (P ++ Z ++ Z) C (C ++ S ++ A ++ Z ++ ms) 8 c.toNat (by simp [lP, lZ]) hC (by omega)
    simpa only [List.append_assoc] using this
  have q10 : g2 (P ++ Z ++ Z ++ C ++ C ++ S ++ A ++ Z ++ ms) 10 = (c.toNat : Nat) := by
    have := g2_at (P ++ Z ++ Z ++ C) C (S ++ A ++ Z ++ ms) 10 c.toNat (by simp [lP, lZ, lC]) hC (by omega)
    simpa only [List.append_assoc] using this
  have q12 : g4 (P ++ Z ++ Z ++ C ++ C ++ S ++ A ++ Z ++ ms) 12 = (s.toNat : Nat) := by
    have := g4_at (P ++ Z ++ Z ++ C ++ C) S (A ++ Z ++ ms) 12 s.toNat (by simp [lP, lZ, lC]) hS (by omega)
    simpa only [List.append_assoc] using this
  have q16 : g4 (P ++ Z ++ Z ++ C ++ C ++ S ++ A ++ Z ++ ms) 16 = (a.toNat : Nat) := by
    have := g4_at (P ++ Z ++ Z ++ C ++ C ++ S) A (Z ++ ms) 16 a.toNat (by simp [lP, lZ, lC, lS]) hA (by omega)
    simpa only [List.append_assoc] using this
  have q20 : g2 (P ++ Z ++ Z ++ C ++ C ++ S ++ A ++ Z ++ ms) 20 = (0 : Nat) := by
    have := g2_at (P ++ Z ++ Z ++ C ++ C ++ S ++ A) Z ms 20 0 (by simp [lP, lZ, lC, lS, lA]) hZ (by omega)
    simpa only [List.append_assoc] using this
  rw [t4, q4, q6, q8, q10, q12, q16, q20, if_neg (by omega), if_neg (by simp)]
  have hmb : mbE ((0 : Nat) : Int) ((0 : Nat) : Int) (c.toNat : Int) (c.toNat : Int) ((0 : Nat) : Int) = true := by unfold mbE; simp
  rw [hmb, if_neg (by decide), Int.toNat_of_nonneg c0, Int.toNat_of_nonneg s0, Int.toNat_of_nonneg a0]

end Go.Proofs.Ytheffpihhmdceaa
