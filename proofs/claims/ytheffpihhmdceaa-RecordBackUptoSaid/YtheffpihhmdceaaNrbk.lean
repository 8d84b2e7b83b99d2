/- What was laid down as a header is read, in plain lists. -/
import Derived.Test.YtheffpihhmdceaaNebk

namespace Go.Proofs.Ytheffpihhmdceaa
set_option maxRecDepth 100000
open Go.ChangeShapes Go.WideShapes Go.ChangeAt Go.RowKit

theorem rdL_of (S : ByteArray) (m a b c d : Int) (h : okR S.size m a b c d = true) (ah T : List Nat) :
    rdL (ah ++ (([80, 75, 3, 4] : List Nat) ++ Fd.le 2 (20) ++ Fd.le 2 (0) ++ Fd.le 2 (m.toNat) ++ Fd.le 2 (0) ++ Fd.le 2 (33) ++ Fd.le 4 (a.toNat) ++ Fd.le 4 (b.toNat) ++ Fd.le 4 (c.toNat) ++ Fd.le 2 (S.size) ++ Fd.le 2 (0) ++ T)) (ah.length : Int) = if T.length < S.size then rdBad 4 else ⟨0, T.take S.size, m, a, b, c, 0, ((ah.length + 30 + S.size : Nat) : Int)⟩ := by
  obtain ⟨n1, n2, h3, h4, h5, h6, h7⟩ := okR_yes h
  obtain ⟨a0, a1⟩ := Fd.isn_of h4
  obtain ⟨b0, b1⟩ := Fd.isn_of h5
  obtain ⟨c0, c1⟩ := Fd.isn_of h6
  obtain ⟨d0, d1⟩ := Fd.isn_of h7
  have hm : m = 0 ∨ m = 8 := by unfold okM at h3; simpa using h3
  have m0 : 0 ≤ m := by rcases hm with rfl | rfl <;> decide
  have m1 : m.toNat < 65536 := by rcases hm with rfl | rfl <;> decide
  obtain ⟨P, hP⟩ : ∃ P : List Nat, P = [80, 75, 3, 4] := ⟨_, rfl⟩
  have lP : P.length = 4 := by rw [hP]; rfl
  rw [← hP]
  obtain ⟨V, hV⟩ : ∃ V, V = Fd.le 2 (20) := ⟨_, rfl⟩
  have lV : V.length = 2 := by rw [hV, Fd.le_length]
  obtain ⟨Z, hZ⟩ : ∃ Z, Z = Fd.le 2 (0) := ⟨_, rfl⟩
  have lZ : Z.length = 2 := by rw [hZ, Fd.le_length]
  obtain ⟨M, hM⟩ : ∃ M, M = Fd.le 2 (m.toNat) := ⟨_, rfl⟩
  have lM : M.length = 2 := by rw [hM, Fd.le_length]
  obtain ⟨W, hW⟩ : ∃ W, W = Fd.le 2 (33) := ⟨_, rfl⟩
  have lW : W.length = 2 := by rw [hW, Fd.le_length]
  obtain ⟨A, hA⟩ : ∃ A, A = Fd.le 4 (a.toNat) := ⟨_, rfl⟩
  have lA : A.length = 4 := by rw [hA, Fd.le_length]
  obtain ⟨B, hB⟩ : ∃ B, B = Fd.le 4 (b.toNat) := ⟨_, rfl⟩
  have lB : B.length = 4 := by rw [hB, Fd.le_length]
  obtain ⟨C, hC⟩ : ∃ C, C = Fd.le 4 (c.toNat) := ⟨_, rfl⟩
  have lC : C.length = 4 := by rw [hC, Fd.le_length]
  obtain ⟨N, hN⟩ : ∃ N, N = Fd.le 2 (S.size) := ⟨_, rfl⟩
  have lN : N.length = 2 := by rw [hN, Fd.le_length]
  rw [← hV, ← hZ, ← hM, ← hW, ← hA, ← hB, ← hC, ← hN]
  have hX : P ++ V ++ Z ++ M ++ Z ++ W ++ A ++ B ++ C ++ N ++ Z ++ T = P ++ (V ++ (Z ++ (M ++ (Z ++ (W ++ (A ++ (B ++ (C ++ (N ++ (Z ++ (T))))))))))) := by simp only [List.append_assoc]
  have hx : (ah ++ (P ++ V ++ Z ++ M ++ Z ++ W ++ A ++ B ++ C ++ N ++ Z ++ T)).drop ah.length = P ++ (V ++ (Z ++ (M ++ (Z ++ (W ++ (A ++ (B ++ (C ++ (N ++ (Z ++ (T))))))))))) := by rw [List.drop_left, hX]
  have hxn : (ah ++ (P ++ V ++ Z ++ M ++ Z ++ W ++ A ++ B ++ C ++ N ++ Z ++ T)).drop (ah.length + 30) = T := by
    rw [← List.append_assoc]
    exact List.drop_left' (by simp only [List.length_append, lP, lV, lZ, lM, lW, lA, lB, lC, lN])
  have hl : (ah ++ (P ++ V ++ Z ++ M ++ Z ++ W ++ A ++ B ++ C ++ N ++ Z ++ T)).length = ah.length + 30 + T.length := by
    simp only [List.length_append, lP, lV, lZ, lM, lW, lA, lB, lC, lN]
    omega
  have hp : pe (ah.length + 30 + T.length) (ah.length : Int) 30 = 0 := by
    unfold pe
    rw [if_neg (by omega), if_neg (by omega)]
  unfold rdL
  rw [show ((ah.length : Int).toNat) = ah.length from by omega, hl, hx, hxn, hp]
  have t4 : (P ++ (V ++ (Z ++ (M ++ (Z ++ (W ++ (A ++ (B ++ (C ++ (N ++ (Z ++ (T)))))))))))).take 4 = P := List.take_left' lP
  have q4 : g2 (P ++ (V ++ (Z ++ (M ++ (Z ++ (W ++ (A ++ (B ++ (C ++ (N ++ (Z ++ (T)))))))))))) 4 = ((20 : Nat) : Int) := by
    have := g2_at (P) V (Z ++ (M ++ (Z ++ (W ++ (A ++ (B ++ (C ++ (N ++ (Z ++ (T)))))))))) 4 (20) (by simp only [lP]) hV (by omega)
    simpa only [List.append_assoc] using this
  have q6 : g2 (P ++ (V ++ (Z ++ (M ++ (Z ++ (W ++ (A ++ (B ++ (C ++ (N ++ (Z ++ (T)))))))))))) 6 = ((0 : Nat) : Int) := by
    have := g2_at (P ++ (V)) Z (M ++ (Z ++ (W ++ (A ++ (B ++ (C ++ (N ++ (Z ++ (T))))))))) 6 (0) (by simp only [List.length_append, lP, lV]) hZ (by omega)
    simpa only [List.append_assoc] using this
  have q8 : g2 (P ++ (V ++ (Z ++ (M ++ (Z ++ (W ++ (A ++ (B ++ (C ++ (N ++ (Z ++ (T)))))))))))) 8 = ((m.toNat : Nat) : Int) := by
    have := g2_at (P ++ (V ++ (Z))) M (Z ++ (W ++ (A ++ (B ++ (C ++ (N ++ (Z ++ (T)))))))) 8 (m.toNat) (by simp only [List.length_append, lP, lV, lZ]) hM (by omega)
    simpa only [List.append_assoc] using this
  have q14 : g4 (P ++ (V ++ (Z ++ (M ++ (Z ++ (W ++ (A ++ (B ++ (C ++ (N ++ (Z ++ (T)))))))))))) 14 = ((a.toNat : Nat) : Int) := by
    have := g4_at (P ++ (V ++ (Z ++ (M ++ (Z ++ (W)))))) A (B ++ (C ++ (N ++ (Z ++ (T))))) 14 (a.toNat) (by simp only [List.length_append, lP, lV, lZ, lM, lW]) hA (by omega)
    simpa only [List.append_assoc] using this
  have q18 : g4 (P ++ (V ++ (Z ++ (M ++ (Z ++ (W ++ (A ++ (B ++ (C ++ (N ++ (Z ++ (T)))))))))))) 18 = ((b.toNat : Nat) : Int) := by
    have := g4_at (P ++ (V ++ (Z ++ (M ++ (Z ++ (W ++ (A))))))) B (C ++ (N ++ (Z ++ (T)))) 18 (b.toNat) (by simp only [List.length_append, lP, lV, lZ, lM, lW, lA]) hB (by omega)
    simpa only [List.append_assoc] using this
  have q22 : g4 (P ++ (V ++ (Z ++ (M ++ (Z ++ (W ++ (A ++ (B ++ (C ++ (N ++ (Z ++ (T)))))))))))) 22 = ((c.toNat : Nat) : Int) := by
    have := g4_at (P ++ (V ++ (Z ++ (M ++ (Z ++ (W ++ (A ++ (B)))))))) C (N ++ (Z ++ (T))) 22 (c.toNat) (by simp only [List.length_append, lP, lV, lZ, lM, lW, lA, lB]) hC (by omega)
    simpa only [List.append_assoc] using this
  have q26 : g2 (P ++ (V ++ (Z ++ (M ++ (Z ++ (W ++ (A ++ (B ++ (C ++ (N ++ (Z ++ (T)))))))))))) 26 = ((S.size : Nat) : Int) := by
    have := g2_at (P ++ (V ++ (Z ++ (M ++ (Z ++ (W ++ (A ++ (B ++ (C))))))))) N (Z ++ (T)) 26 (S.size) (by simp only [List.length_append, lP, lV, lZ, lM, lW, lA, lB, lC]) hN (by omega)
    simpa only [List.append_assoc] using this
  have q28 : g2 (P ++ (V ++ (Z ++ (M ++ (Z ++ (W ++ (A ++ (B ++ (C ++ (N ++ (Z ++ (T)))))))))))) 28 = ((0 : Nat) : Int) := by
    have := g2_at (P ++ (V ++ (Z ++ (M ++ (Z ++ (W ++ (A ++ (B ++ (C ++ (N)))))))))) Z (T) 28 (0) (by simp only [List.length_append, lP, lV, lZ, lM, lW, lA, lB, lC, lN]) hZ (by omega)
    simpa only [List.append_assoc] using this
  have hmb : mbH ((20 : Nat) : Int) ((0 : Nat) : Int) ((m.toNat : Nat) : Int) ((S.size : Nat) : Int) ((0 : Nat) : Int) 0 0 = true := by
    have : decide (0 < ((S.size : Nat) : Int)) = true := by simp; omega
    unfold mbH
    rw [this]
    rcases hm with rfl | rfl <;> rfl
  rw [t4, q4, q6, q8, q14, q18, q22, q26, q28, if_neg (by omega), if_neg (by rw [hP]; simp), hmb, if_neg (by decide)]
  by_cases hT : T.length < S.size
  · rw [if_pos hT, if_pos (by omega)]
  · rw [if_neg hT, if_neg (by omega)]
    simp only [Int.toNat_natCast, Int.toNat_of_nonneg m0, Int.toNat_of_nonneg a0, Int.toNat_of_nonneg b0, Int.toNat_of_nonneg c0]


theorem rdC_of (S : ByteArray) (m a b c d : Int) (h : okR S.size m a b c d = true) (ah T : List Nat) :
    rdC (ah ++ (([80, 75, 1, 2] : List Nat) ++ Fd.le 2 (20) ++ Fd.le 2 (20) ++ Fd.le 2 (0) ++ Fd.le 2 (m.toNat) ++ Fd.le 2 (0) ++ Fd.le 2 (33) ++ Fd.le 4 (a.toNat) ++ Fd.le 4 (b.toNat) ++ Fd.le 4 (c.toNat) ++ Fd.le 2 (S.size) ++ Fd.le 2 (0) ++ Fd.le 2 (0) ++ Fd.le 2 (0) ++ Fd.le 2 (0) ++ Fd.le 4 (if endsB S = true then 16 else 0) ++ Fd.le 4 (d.toNat) ++ T)) (ah.length : Int) = if T.length < S.size then rdBad 4 else ⟨0, T.take S.size, m, a, b, c, d, ((ah.length + 46 + S.size : Nat) : Int)⟩ := by
  obtain ⟨n1, n2, h3, h4, h5, h6, h7⟩ := okR_yes h
  obtain ⟨a0, a1⟩ := Fd.isn_of h4
  obtain ⟨b0, b1⟩ := Fd.isn_of h5
  obtain ⟨c0, c1⟩ := Fd.isn_of h6
  obtain ⟨d0, d1⟩ := Fd.isn_of h7
  have hm : m = 0 ∨ m = 8 := by unfold okM at h3; simpa using h3
  have m0 : 0 ≤ m := by rcases hm with rfl | rfl <;> decide
  have m1 : m.toNat < 65536 := by rcases hm with rfl | rfl <;> decide
  obtain ⟨P, hP⟩ : ∃ P : List Nat, P = [80, 75, 1, 2] := ⟨_, rfl⟩
  have lP : P.length = 4 := by rw [hP]; rfl
  rw [← hP]
  obtain ⟨V, hV⟩ : ∃ V, V = Fd.le 2 (20) := ⟨_, rfl⟩
  have lV : V.length = 2 := by rw [hV, Fd.le_length]
  obtain ⟨Z, hZ⟩ : ∃ Z, Z = Fd.le 2 (0) := ⟨_, rfl⟩
  have lZ : Z.length = 2 := by rw [hZ, Fd.le_length]
  obtain ⟨M, hM⟩ : ∃ M, M = Fd.le 2 (m.toNat) := ⟨_, rfl⟩
  have lM : M.length = 2 := by rw [hM, Fd.le_length]
  obtain ⟨W, hW⟩ : ∃ W, W = Fd.le 2 (33) := ⟨_, rfl⟩
  have lW : W.length = 2 := by rw [hW, Fd.le_length]
  obtain ⟨A, hA⟩ : ∃ A, A = Fd.le 4 (a.toNat) := ⟨_, rfl⟩
  have lA : A.length = 4 := by rw [hA, Fd.le_length]
  obtain ⟨B, hB⟩ : ∃ B, B = Fd.le 4 (b.toNat) := ⟨_, rfl⟩
  have lB : B.length = 4 := by rw [hB, Fd.le_length]
  obtain ⟨C, hC⟩ : ∃ C, C = Fd.le 4 (c.toNat) := ⟨_, rfl⟩
  have lC : C.length = 4 := by rw [hC, Fd.le_length]
  obtain ⟨N, hN⟩ : ∃ N, N = Fd.le 2 (S.size) := ⟨_, rfl⟩
  have lN : N.length = 2 := by rw [hN, Fd.le_length]
  obtain ⟨K, hK⟩ : ∃ K, K = Fd.le 4 (if endsB S = true then 16 else 0) := ⟨_, rfl⟩
  have lK : K.length = 4 := by rw [hK, Fd.le_length]
  obtain ⟨D, hD⟩ : ∃ D, D = Fd.le 4 (d.toNat) := ⟨_, rfl⟩
  have lD : D.length = 4 := by rw [hD, Fd.le_length]
  rw [← hV, ← hZ, ← hM, ← hW, ← hA, ← hB, ← hC, ← hN, ← hK, ← hD]
  have hX : P ++ V ++ V ++ Z ++ M ++ Z ++ W ++ A ++ B ++ C ++ N ++ Z ++ Z ++ Z ++ Z ++ K ++ D ++ T = P ++ (V ++ (V ++ (Z ++ (M ++ (Z ++ (W ++ (A ++ (B ++ (C ++ (N ++ (Z ++ (Z ++ (Z ++ (Z ++ (K ++ (D ++ (T))))))))))))))))) := by simp only [List.append_assoc]
  have hx : (ah ++ (P ++ V ++ V ++ Z ++ M ++ Z ++ W ++ A ++ B ++ C ++ N ++ Z ++ Z ++ Z ++ Z ++ K ++ D ++ T)).drop ah.length = P ++ (V ++ (V ++ (Z ++ (M ++ (Z ++ (W ++ (A ++ (B ++ (C ++ (N ++ (Z ++ (Z ++ (Z ++ (Z ++ (K ++ (D ++ (T))))))))))))))))) := by rw [List.drop_left, hX]
  have hxn : (ah ++ (P ++ V ++ V ++ Z ++ M ++ Z ++ W ++ A ++ B ++ C ++ N ++ Z ++ Z ++ Z ++ Z ++ K ++ D ++ T)).drop (ah.length + 46) = T := by
    rw [← List.append_assoc]
    exact List.drop_left' (by simp only [List.length_append, lP, lV, lZ, lM, lW, lA, lB, lC, lN, lK, lD])
  have hl : (ah ++ (P ++ V ++ V ++ Z ++ M ++ Z ++ W ++ A ++ B ++ C ++ N ++ Z ++ Z ++ Z ++ Z ++ K ++ D ++ T)).length = ah.length + 46 + T.length := by
    simp only [List.length_append, lP, lV, lZ, lM, lW, lA, lB, lC, lN, lK, lD]
    omega
  have hp : pe (ah.length + 46 + T.length) (ah.length : Int) 46 = 0 := by
    unfold pe
    rw [if_neg (by omega), if_neg (by omega)]
  unfold rdC
  rw [show ((ah.length : Int).toNat) = ah.length from by omega, hl, hx, hxn, hp]
  have t4 : (P ++ (V ++ (V ++ (Z ++ (M ++ (Z ++ (W ++ (A ++ (B ++ (C ++ (N ++ (Z ++ (Z ++ (Z ++ (Z ++ (K ++ (D ++ (T)))))))))))))))))).take 4 = P := List.take_left' lP
  have q6 : g2 (P ++ (V ++ (V ++ (Z ++ (M ++ (Z ++ (W ++ (A ++ (B ++ (C ++ (N ++ (Z ++ (Z ++ (Z ++ (Z ++ (K ++ (D ++ (T)))))))))))))))))) 6 = ((20 : Nat) : Int) := by
    have := g2_at (P ++ (V)) V (Z ++ (M ++ (Z ++ (W ++ (A ++ (B ++ (C ++ (N ++ (Z ++ (Z ++ (Z ++ (Z ++ (K ++ (D ++ (T))))))))))))))) 6 (20) (by simp only [List.length_append, lP, lV]) hV (by omega)
    simpa only [List.append_assoc] using this
  have q8 : g2 (P ++ (V ++ (V ++ (Z ++ (M ++ (Z ++ (W ++ (A ++ (B ++ (C ++ (N ++ (Z ++ (Z ++ (Z ++ (Z ++ (K ++ (D ++ (T)))))))))))))))))) 8 = ((0 : Nat) : Int) := by
    have := g2_at (P ++ (V ++ (V))) Z (M ++ (Z ++ (W ++ (A ++ (B ++ (C ++ (N ++ (Z ++ (Z ++ (Z ++ (Z ++ (K ++ (D ++ (T)))))))))))))) 8 (0) (by simp only [List.length_append, lP, lV]) hZ (by omega)
    simpa only [List.append_assoc] using this
  have q10 : g2 (P ++ (V ++ (V ++ (Z ++ (M ++ (Z ++ (W ++ (A ++ (B ++ (C ++ (N ++ (Z ++ (Z ++ (Z ++ (Z ++ (K ++ (D ++ (T)))))))))))))))))) 10 = ((m.toNat : Nat) : Int) := by
    have := g2_at (P ++ (V ++ (V ++ (Z)))) M (Z ++ (W ++ (A ++ (B ++ (C ++ (N ++ (Z ++ (Z ++ (Z ++ (Z ++ (K ++ (D ++ (T))))))))))))) 10 (m.toNat) (by simp only [List.length_append, lP, lV, lZ]) hM (by omega)
    simpa only [List.append_assoc] using this
  have q16 : g4 (P ++ (V ++ (V ++ (Z ++ (M ++ (Z ++ (W ++ (A ++ (B ++ (C ++ (N ++ (Z ++ (Z ++ (Z ++ (Z ++ (K ++ (D ++ (T)))))))))))))))))) 16 = ((a.toNat : Nat) : Int) := by
    have := g4_at (P ++ (V ++ (V ++ (Z ++ (M ++ (Z ++ (W))))))) A (B ++ (C ++ (N ++ (Z ++ (Z ++ (Z ++ (Z ++ (K ++ (D ++ (T)))))))))) 16 (a.toNat) (by simp only [List.length_append, lP, lV, lZ, lM, lW]) hA (by omega)
    simpa only [List.append_assoc] using this
  have q20 : g4 (P ++ (V ++ (V ++ (Z ++ (M ++ (Z ++ (W ++ (A ++ (B ++ (C ++ (N ++ (Z ++ (Z ++ (Z ++ (Z ++ (K ++ (D ++ (T)))))))))))))))))) 20 = ((b.toNat : Nat) : Int) := by
    have := g4_at (P ++ (V ++ (V ++ (Z ++ (M ++ (Z ++ (W ++ (A)))))))) B (C ++ (N ++ (Z ++ (Z ++ (Z ++ (Z ++ (K ++ (D ++ (T))))))))) 20 (b.toNat) (by simp only [List.length_append, lP, lV, lZ, lM, lW, lA]) hB (by omega)
    simpa only [List.append_assoc] using this
  have q24 : g4 (P ++ (V ++ (V ++ (Z ++ (M ++ (Z ++ (W ++ (A ++ (B ++ (C ++ (N ++ (Z ++ (Z ++ (Z ++ (Z ++ (K ++ (D ++ (T)))))))))))))))))) 24 = ((c.toNat : Nat) : Int) := by
    have := g4_at (P ++ (V ++ (V ++ (Z ++ (M ++ (Z ++ (W ++ (A ++ (B))))))))) C (N ++ (Z ++ (Z ++ (Z ++ (Z ++ (K ++ (D ++ (T)))))))) 24 (c.toNat) (by simp only [List.length_append, lP, lV, lZ, lM, lW, lA, lB]) hC (by omega)
    simpa only [List.append_assoc] using this
  have q28 : g2 (P ++ (V ++ (V ++ (Z ++ (M ++ (Z ++ (W ++ (A ++ (B ++ (C ++ (N ++ (Z ++ (Z ++ (Z ++ (Z ++ (K ++ (D ++ (T)))))))))))))))))) 28 = ((S.size : Nat) : Int) := by
    have := g2_at (P ++ (V ++ (V ++ (Z ++ (M ++ (Z ++ (W ++ (A ++ (B ++ (C)))))))))) N (Z ++ (Z ++ (Z ++ (Z ++ (K ++ (D ++ (T))))))) 28 (S.size) (by simp only [List.length_append, lP, lV, lZ, lM, lW, lA, lB, lC]) hN (by omega)
    simpa only [List.append_assoc] using this
  have q30 : g2 (P ++ (V ++ (V ++ (Z ++ (M ++ (Z ++ (W ++ (A ++ (B ++ (C ++ (N ++ (Z ++ (Z ++ (Z ++ (Z ++ (K ++ (D ++ (T)))))))))))))))))) 30 = ((0 : Nat) : Int) := by
    have := g2_at (P ++ (V ++ (V ++ (Z ++ (M ++ (Z ++ (W ++ (A ++ (B ++ (C ++ (N))))))))))) Z (Z ++ (Z ++ (Z ++ (K ++ (D ++ (T)))))) 30 (0) (by simp only [List.length_append, lP, lV, lZ, lM, lW, lA, lB, lC, lN]) hZ (by omega)
    simpa only [List.append_assoc] using this
  have q32 : g2 (P ++ (V ++ (V ++ (Z ++ (M ++ (Z ++ (W ++ (A ++ (B ++ (C ++ (N ++ (Z ++ (Z ++ (Z ++ (Z ++ (K ++ (D ++ (T)))))))))))))))))) 32 = ((0 : Nat) : Int) := by
    have := g2_at (P ++ (V ++ (V ++ (Z ++ (M ++ (Z ++ (W ++ (A ++ (B ++ (C ++ (N ++ (Z)))))))))))) Z (Z ++ (Z ++ (K ++ (D ++ (T))))) 32 (0) (by simp only [List.length_append, lP, lV, lZ, lM, lW, lA, lB, lC, lN]) hZ (by omega)
    simpa only [List.append_assoc] using this
  have q34 : g2 (P ++ (V ++ (V ++ (Z ++ (M ++ (Z ++ (W ++ (A ++ (B ++ (C ++ (N ++ (Z ++ (Z ++ (Z ++ (Z ++ (K ++ (D ++ (T)))))))))))))))))) 34 = ((0 : Nat) : Int) := by
    have := g2_at (P ++ (V ++ (V ++ (Z ++ (M ++ (Z ++ (W ++ (A ++ (B ++ (C ++ (N ++ (Z ++ (Z))))))))))))) Z (Z ++ (K ++ (D ++ (T)))) 34 (0) (by simp only [List.length_append, lP, lV, lZ, lM, lW, lA, lB, lC, lN]) hZ (by omega)
    simpa only [List.append_assoc] using this
  have q42 : g4 (P ++ (V ++ (V ++ (Z ++ (M ++ (Z ++ (W ++ (A ++ (B ++ (C ++ (N ++ (Z ++ (Z ++ (Z ++ (Z ++ (K ++ (D ++ (T)))))))))))))))))) 42 = ((d.toNat : Nat) : Int) := by
    have := g4_at (P ++ (V ++ (V ++ (Z ++ (M ++ (Z ++ (W ++ (A ++ (B ++ (C ++ (N ++ (Z ++ (Z ++ (Z ++ (Z ++ (K)))))))))))))))) D (T) 42 (d.toNat) (by simp only [List.length_append, lP, lV, lZ, lM, lW, lA, lB, lC, lN, lK]) hD (by omega)
    simpa only [List.append_assoc] using this
  have hmb : mbH ((20 : Nat) : Int) ((0 : Nat) : Int) ((m.toNat : Nat) : Int) ((S.size : Nat) : Int) ((0 : Nat) : Int) ((0 : Nat) : Int) ((0 : Nat) : Int) = true := by
    have : decide (0 < ((S.size : Nat) : Int)) = true := by simp; omega
    unfold mbH
    rw [this]
    rcases hm with rfl | rfl <;> rfl
  rw [t4, q6, q8, q10, q16, q20, q24, q28, q30, q32, q34, q42, if_neg (by omega), if_neg (by rw [hP]; simp), hmb, if_neg (by decide)]
  by_cases hT : T.length < S.size
  · rw [if_pos hT, if_pos (by omega)]
  · rw [if_neg hT, if_neg (by omega)]
    simp only [Int.toNat_natCast, Int.toNat_of_nonneg m0, Int.toNat_of_nonneg a0, Int.toNat_of_nonneg b0, Int.toNat_of_nonneg c0, Int.toNat_of_nonneg d0]


theorem localB_len (S : ByteArray) (m a b c d : Int) : (localB S m a b c d).length = 30 + S.size := by
  rw [local_is]
  simp only [List.length_append, mid_size, Fd.le_length, sB_length, List.length_cons, List.length_nil]
theorem rdL_back (S : ByteArray) (m a b c d : Int) (h : okR S.size m a b c d = true) (ah ms : List Nat) :
    rdL (ah ++ localB S m a b c d ++ ms) (ah.length : Int) = ⟨0, sB S, m, a, b, c, 0, ((ah.length + 30 + S.size : Nat) : Int)⟩ := by
  have e := rdL_of S m a b c d h ah (sB S ++ ms)
  rw [if_neg (show ¬ (sB S ++ ms).length < S.size by rw [List.length_append, sB_length]; omega), List.take_left' (sB_length S)] at e
  rw [← e, local_is]
  unfold mid
  simp only [List.append_assoc]
theorem rdL_cut (S : ByteArray) (m a b c d : Int) (h : okR S.size m a b c d = true) : rdL ((localB S m a b c d).take (30 + S.size - 1)) 0 = rdBad 4 := by
  obtain ⟨n1, -⟩ := okR_yes h
  have e := rdL_of S m a b c d h [] ((sB S).take (S.size - 1))
  rw [if_pos (show ((sB S).take (S.size - 1)).length < S.size by rw [List.length_take, sB_length]; omega)] at e
  rw [List.nil_append] at e
  rw [show (0 : Int) = (([] : List Nat).length : Int) from rfl, ← e, local_is]
  unfold mid
  have hl : (([80, 75, 3, 4] : List Nat) ++ (Fd.le 2 20 ++ Fd.le 2 0 ++ Fd.le 2 m.toNat ++ Fd.le 2 0 ++ Fd.le 2 33 ++ Fd.le 4 a.toNat ++ Fd.le 4 b.toNat ++ Fd.le 4 c.toNat ++ Fd.le 2 S.size) ++ Fd.le 2 0).length = 30 := by simp only [List.length_append, Fd.le_length, List.length_cons, List.length_nil]
  rw [List.take_append, List.take_of_length_le (by rw [hl]; omega), hl, show 30 + S.size - 1 - 30 = S.size - 1 from by omega]
  rfl

theorem centralB_len (S : ByteArray) (m a b c d : Int) : (centralB S m a b c d).length = 46 + S.size := by
  rw [central_is]
  simp only [List.length_append, mid_size, Fd.le_length, sB_length, List.length_cons, List.length_nil]
theorem rdC_back (S : ByteArray) (m a b c d : Int) (h : okR S.size m a b c d = true) (ah ms : List Nat) :
    rdC (ah ++ centralB S m a b c d ++ ms) (ah.length : Int) = ⟨0, sB S, m, a, b, c, d, ((ah.length + 46 + S.size : Nat) : Int)⟩ := by
  have e := rdC_of S m a b c d h ah (sB S ++ ms)
  rw [if_neg (show ¬ (sB S ++ ms).length < S.size by rw [List.length_append, sB_length]; omega), List.take_left' (sB_length S)] at e
  rw [← e, central_is]
  unfold mid
  simp only [List.append_assoc]
theorem rdC_cut (S : ByteArray) (m a b c d : Int) (h : okR S.size m a b c d = true) : rdC ((centralB S m a b c d).take (46 + S.size - 1)) 0 = rdBad 4 := by
  obtain ⟨n1, -⟩ := okR_yes h
  have e := rdC_of S m a b c d h [] ((sB S).take (S.size - 1))
  rw [if_pos (show ((sB S).take (S.size - 1)).length < S.size by rw [List.length_take, sB_length]; omega)] at e
  rw [List.nil_append] at e
  rw [show (0 : Int) = (([] : List Nat).length : Int) from rfl, ← e, central_is]
  unfold mid
  have hl : (([80, 75, 1, 2] : List Nat) ++ Fd.le 2 20 ++ (Fd.le 2 20 ++ Fd.le 2 0 ++ Fd.le 2 m.toNat ++ Fd.le 2 0 ++ Fd.le 2 33 ++ Fd.le 4 a.toNat ++ Fd.le 4 b.toNat ++ Fd.le 4 c.toNat ++ Fd.le 2 S.size) ++ Fd.le 2 0 ++ Fd.le 2 0 ++ Fd.le 2 0 ++ Fd.le 2 0 ++ Fd.le 4 (if endsB S = true then 16 else 0) ++ Fd.le 4 d.toNat).length = 46 := by simp only [List.length_append, Fd.le_length, List.length_cons, List.length_nil]
  rw [List.take_append, List.take_of_length_le (by rw [hl]; omega), hl, show 46 + S.size - 1 - 46 = S.size - 1 from by omega]
  rfl

end Go.Proofs.Ytheffpihhmdceaa
