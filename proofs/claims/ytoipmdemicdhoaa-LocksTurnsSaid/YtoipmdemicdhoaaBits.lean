/- Plain facts on lists of bits and the bytes that hold them, the lowest bit of a byte first. Nothing of the program is named here. -/


namespace Go.Proofs.Ytoipmdemicdhoaa.Bs

/-- The number of some bits, the lowest one first. -/
def num : List Bool → Nat
  | [] => 0
  | b :: l => b.toNat + 2 * num l

theorem num_lt (l : List Bool) : num l < 2 ^ l.length := by
  induction l with
  | nil => simp [num]
  | cons b l ih =>
    have : b.toNat ≤ 1 := by cases b <;> simp
    simp only [num, List.length_cons, Nat.pow_succ]
    omega

theorem testBit_num (l : List Bool) (i : Nat) : (num l).testBit i = l[i]?.getD false := by
  induction l generalizing i with
  | nil => simp [num]
  | cons b l ih =>
    cases i with
    | zero =>
      simp only [num, Nat.testBit_zero, List.getElem?_cons_zero, Option.getD_some]
      cases b <;> simp <;> omega
    | succ i =>
      rw [Nat.testBit_succ]
      have : (num (b :: l)) / 2 = num l := by
        simp only [num]
        cases b <;> simp <;> omega
      rw [this, ih]
      simp

/-- The j-th byte of some bits; behind their end bits 0 stand. -/
def byteAt (l : List Bool) (j : Nat) : Nat := num ((l.drop (8 * j)).take 8)

theorem byteAt_lt (l : List Bool) (j : Nat) : byteAt l j < 256 := by
  have h := num_lt ((l.drop (8 * j)).take 8)
  have h2 : ((l.drop (8 * j)).take 8).length ≤ 8 := List.length_take_le _ _
  have h3 : 2 ^ ((l.drop (8 * j)).take 8).length ≤ 2 ^ 8 := Nat.pow_le_pow_right (by omega) h2
  unfold byteAt
  omega

theorem testBit_byteAt (l : List Bool) (j i : Nat) : (byteAt l j).testBit i = (decide (i < 8) && (l[8 * j + i]?.getD false)) := by
  unfold byteAt
  rw [testBit_num]
  by_cases h : i < 8
  · simp [h, List.getElem?_drop]
  · simp [h, List.getElem?_take]

/-- Bits in m bytes. -/
def packTo (m : Nat) (l : List Bool) : List Nat := (List.range m).map (byteAt l)

/-- Bits in as many bytes as they need. -/
def pack (l : List Bool) : List Nat := packTo ((l.length + 7) / 8) l

theorem packTo_length (m : Nat) (l : List Bool) : (packTo m l).length = m := by simp [packTo]
theorem pack_length (l : List Bool) : (pack l).length = (l.length + 7) / 8 := by simp [pack, packTo]

theorem packTo_get (m : Nat) (l : List Bool) (j : Nat) (h : j < m) : (packTo m l)[j]?.getD 0 = byteAt l j := by
  simp [packTo, h]

theorem packTo_get' (m : Nat) (l : List Bool) (j : Nat) (h : j < m) : (packTo m l)[j]? = some (byteAt l j) := by
  simp [packTo, h]

/-- The n low bits of a number. -/
def bitsOf (v n : Nat) : List Bool := (List.range n).map v.testBit

theorem bitsOf_length (v n : Nat) : (bitsOf v n).length = n := by simp [bitsOf]
theorem bitsOf_get (v n i : Nat) : (bitsOf v n)[i]?.getD false = (decide (i < n) && v.testBit i) := by
  by_cases h : i < n <;> simp [bitsOf, h]

theorem bitsOf_succ (v n : Nat) : bitsOf v (n + 1) = bitsOf v n ++ [v.testBit n] := by
  simp [bitsOf, List.range_succ]

theorem num_bitsOf (v n : Nat) (h : v < 2 ^ n) : num (bitsOf v n) = v := by
  apply Nat.eq_of_testBit_eq
  intro i
  rw [testBit_num, bitsOf_get]
  by_cases hi : i < n
  · simp [hi]
  · have : v.testBit i = false := Nat.testBit_lt_two_pow (Nat.lt_of_lt_of_le h (Nat.pow_le_pow_right (by omega) (by omega)))
    simp [this]

theorem num_take_succ (l : List Bool) (k : Nat) (h : k < l.length) : num (l.take (k + 1)) = num (l.take k) + (l[k]).toNat * 2 ^ k := by
  induction l generalizing k with
  | nil => simp at h
  | cons b l ih =>
    cases k with
    | zero => simp [num]
    | succ k =>
      simp only [List.length_cons] at h
      have := ih k (by omega)
      simp only [List.take_succ_cons, num, List.getElem_cons_succ, Nat.pow_succ]
      rw [this, Nat.mul_add]
      have e : l[k].toNat * (2 ^ k * 2) = 2 * (l[k].toNat * 2 ^ k) := by rw [Nat.mul_comm (2 ^ k) 2, ← Nat.mul_assoc, Nat.mul_comm _ 2, Nat.mul_assoc]
      rw [e]
      omega

/-- One bit more. -/
theorem byteAt_snoc (l : List Bool) (b : Bool) (j : Nat) : byteAt (l ++ [b]) j = if j = l.length / 8 then byteAt l j ||| (b.toNat <<< (l.length % 8)) else byteAt l j := by
  apply Nat.eq_of_testBit_eq
  intro i
  have e1 : l.length % 8 + 8 * (l.length / 8) = l.length := by omega
  have hb : ∀ k, (b.toNat).testBit k = (decide (k = 0) && b) := by
    intro k
    cases b
    · simp
    · cases k with
      | zero => simp
      | succ k => rw [Nat.testBit_succ]; simp
  rw [testBit_byteAt]
  have app : (l ++ [b])[8 * j + i]?.getD false = if 8 * j + i = l.length then b else l[8 * j + i]?.getD false := by
    by_cases h : 8 * j + i < l.length
    · rw [if_neg (by omega), List.getElem?_append_left h]
    · rw [List.getElem?_append_right (by omega)]
      by_cases h2 : 8 * j + i = l.length
      · simp [h2]
      · rw [if_neg h2, List.getElem?_eq_none (by simp; omega), List.getElem?_eq_none (by omega)]
  rw [app]
  by_cases hj : j = l.length / 8
  · rw [if_pos hj, Nat.testBit_or, testBit_byteAt, Nat.testBit_shiftLeft, hb]
    by_cases hi : i < 8
    · by_cases hq : 8 * j + i = l.length
      · have : i - l.length % 8 = 0 := by omega
        have h2 : l.length % 8 ≤ i := by omega
        rw [if_pos hq, hq]
        simp [hi, this, h2]
      · rw [if_neg hq]
        by_cases h2 : i ≥ l.length % 8
        · have : ¬ (i - l.length % 8 = 0) := by omega
          simp [hi, this]
        · simp [h2]
    · by_cases h2 : i ≥ l.length % 8
      · have : ¬ (i - l.length % 8 = 0) := by omega
        simp [hi, this]
      · omega
  · rw [if_neg hj, testBit_byteAt]
    by_cases hi : i < 8
    · have : ¬ (8 * j + i = l.length) := by omega
      simp [this]
    · simp [hi]

theorem packTo_snoc (m : Nat) (l : List Bool) (b : Bool) : packTo m (l ++ [b]) = (packTo m l).set (l.length / 8) (byteAt l (l.length / 8) ||| (b.toNat <<< (l.length % 8))) := by
  apply List.ext_getElem?
  intro j
  rw [List.getElem?_set]
  by_cases h : j < m
  · rw [packTo_get' _ _ _ h, packTo_get' _ _ _ h, byteAt_snoc]
    by_cases hj : l.length / 8 = j
    · rw [if_pos hj.symm, if_pos hj, packTo_length, if_pos (by omega)]
      rw [← hj]
    · rw [if_neg (fun e => hj e.symm), if_neg hj]
  · rw [List.getElem?_eq_none (by rw [packTo_length]; omega)]
    by_cases hj : l.length / 8 = j
    · rw [if_pos hj, packTo_length, if_neg (by omega)]
    · rw [if_neg hj, List.getElem?_eq_none (by rw [packTo_length]; omega)]

/-- The bits of some bytes. -/
def bitsFrom (bs : List Nat) (n : Nat) : List Bool := (List.range n).map fun i => (bs[i / 8]?.getD 0).testBit (i % 8)

theorem bitsFrom_length (bs : List Nat) (n : Nat) : (bitsFrom bs n).length = n := by simp [bitsFrom]
theorem bitsFrom_get (bs : List Nat) (n i : Nat) (h : i < n) : (bitsFrom bs n)[i]?.getD false = (bs[i / 8]?.getD 0).testBit (i % 8) := by
  simp [bitsFrom, h]

/-- A row that is right: as many bytes as its bits need; behind its last bit bits 0. -/
def right (bs : List Nat) (n : Nat) : Prop := bs.length = (n + 7) / 8 ∧ (n % 8 = 0 ∨ (bs[bs.length - 1]?.getD 0) / 2 ^ (n % 8) = 0)

theorem pack_bitsFrom (bs : List Nat) (n : Nat) (h : right bs n) (h8 : ∀ x ∈ bs, x < 256) : pack (bitsFrom bs n) = bs := by
  obtain ⟨h1, h2⟩ := h
  apply List.ext_getElem?
  intro j
  unfold pack
  rw [bitsFrom_length, ← h1]
  by_cases hj : j < bs.length
  · rw [packTo_get' _ _ _ hj, List.getElem?_eq_getElem hj]
    congr 1
    apply Nat.eq_of_testBit_eq
    intro i
    rw [testBit_byteAt]
    have hlt : bs[j] < 256 := h8 _ (List.getElem_mem hj)
    by_cases hi : i < 8
    · by_cases hn : 8 * j + i < n
      · rw [bitsFrom_get _ _ _ hn]
        have e1 : (8 * j + i) / 8 = j := by omega
        have e2 : (8 * j + i) % 8 = i := by omega
        rw [e1, e2, List.getElem?_eq_getElem hj]
        simp [hi]
      · rw [List.getElem?_eq_none (by rw [bitsFrom_length]; omega)]
        simp only [Option.getD_none, Bool.and_false]
        have hj2 : j = bs.length - 1 := by omega
        rcases h2 with h2 | h2
        · omega
        · rw [← hj2, List.getElem?_eq_getElem hj, Option.getD_some] at h2
          have h3 : bs[j] < 2 ^ (n % 8) := by
            rcases Nat.div_eq_zero_iff.1 h2 with h | h
            · exact absurd h (by have := Nat.two_pow_pos (n % 8); omega)
            · exact h
          have : n % 8 ≤ i := by omega
          exact (Nat.testBit_lt_two_pow (Nat.lt_of_lt_of_le h3 (Nat.pow_le_pow_right (by omega) this))).symm
    · simp only [hi, decide_false, Bool.false_and]
      exact (Nat.testBit_lt_two_pow (Nat.lt_of_lt_of_le hlt (show 2 ^ 8 ≤ 2 ^ i from Nat.pow_le_pow_right (by omega) (by omega)))).symm
  · rw [List.getElem?_eq_none (by rw [packTo_length]; omega), List.getElem?_eq_none (by omega)]

theorem pack_right (l : List Bool) : right (pack l) l.length := by
  refine ⟨pack_length l, ?_⟩
  by_cases h : l.length % 8 = 0
  · exact Or.inl h
  · right
    rw [pack_length]
    unfold pack
    rw [packTo_get _ _ _ (by omega)]
    have e : byteAt l ((l.length + 7) / 8 - 1) < 2 ^ (l.length % 8) := by
      unfold byteAt
      refine Nat.lt_of_lt_of_le (num_lt _) (Nat.pow_le_pow_right (by omega) ?_)
      rw [List.length_take, List.length_drop]
      omega
    exact Nat.div_eq_of_lt e

theorem pack_lt (l : List Bool) : ∀ x ∈ pack l, x < 256 := by
  intro x hx
  simp only [pack, packTo, List.mem_map] at hx
  obtain ⟨j, _, rfl⟩ := hx
  exact byteAt_lt _ _

theorem bitsFrom_pack (l : List Bool) : bitsFrom (pack l) l.length = l := by
  apply List.ext_getElem?
  intro i
  by_cases h : i < l.length
  · simp only [bitsFrom, List.getElem?_map, List.getElem?_range h, Option.map_some]
    unfold pack
    rw [packTo_get _ _ _ (by omega), testBit_byteAt]
    have e : 8 * (i / 8) + i % 8 = i := by omega
    rw [e, List.getElem?_eq_getElem h]
    have : i % 8 < 8 := by omega
    simp [this]
  · rw [List.getElem?_eq_none (by rw [bitsFrom_length]; omega), List.getElem?_eq_none (by omega)]

/-- The bytes of a row, up to a whole byte, are those of the row with bits 0 behind it. -/
theorem pack_pad (l : List Bool) (k : Nat) (h : l.length + k ≤ 8 * ((l.length + 7) / 8)) : pack (l ++ List.replicate k false) = pack l := by
  unfold pack packTo
  have e : ((l ++ List.replicate k false).length + 7) / 8 = (l.length + 7) / 8 := by
    simp only [List.length_append, List.length_replicate]; omega
  rw [e]
  apply List.map_congr_left
  intro j _
  apply Nat.eq_of_testBit_eq
  intro i
  rw [testBit_byteAt, testBit_byteAt]
  congr 1
  by_cases h : 8 * j + i < l.length
  · rw [List.getElem?_append_left h]
  · rw [List.getElem?_append_right (by omega), List.getElem?_eq_none (by omega : l.length ≤ 8 * j + i)]
    rw [List.getElem?_replicate]
    split <;> rfl

end Go.Proofs.Ytoipmdemicdhoaa.Bs
