/- The document's disk: each call in one contract over the plain disk. -/
import Derived.Test.YthbiibinmofmfaaYdy
import Derived.Test.YthbiibinmofmfaaYdn

namespace Go.Proofs.Ythbiibinmofmfaa
set_option maxRecDepth 100000
open Go.RowKit

theorem rdisk_read_any (w : World) (G : Nat → Prop) (v : Value) (d : Ek.Dk) (h : DDk w G v d) (i : Int) :
    Calls Try.prog 38 #[v, .int .i64 i] w fun e w' => e = .returned (.tuple #[.string (strB (if Ek.readE d i = 0 then Ek.now d i.toNat else [])), .int .i64 (Ek.readE d i)]) ∧ Below w.heap.size w w' := by
  by_cases h1 : i < 0 ∨ (d.n : Int) ≤ i
  · have e : Ek.readE d i = 2 := by unfold Ek.readE; rw [if_pos h1]
    rw [e, if_neg (by decide)]
    exact rdisk_out w G v d h i h1
  · obtain ⟨j, rfl⟩ : ∃ j : Nat, i = (j : Int) := ⟨i.toNat, by omega⟩
    by_cases h2 : d.dark = true
    · have e : Ek.readE d (j : Int) = 6 := by unfold Ek.readE; rw [if_neg h1, if_pos h2]
      rw [e, if_neg (by decide)]
      exact rdisk_dark w G v d h j (by omega) h2
    · have e : Ek.readE d (j : Int) = 0 := by unfold Ek.readE; rw [if_neg h1, if_neg h2]
      rw [e, if_pos rfl]
      exact rdisk_read w G v d h j (by omega) (by simpa using h2)

theorem rdisk_write_any (w : World) (G : Nat → Prop) (v : Value) (d : Ek.Dk) (h : DDk w G v d) (i : Int) (bs : List Nat) (h8 : ∀ x ∈ bs, x < 256) (hu : d.used < 1000000) :
    Calls Try.prog 24 #[v, .int .i64 i, .string (strB bs)] w fun e w' => (∃ v', e = .returned (.tuple #[v', .int .i64 (Ek.writeE d i bs)]) ∧ DDk w' (fun q => G q ∨ w.heap.size ≤ q) v' (Ek.write d i bs)) ∧ Below w.heap.size w w' := by
  by_cases hb : Ek.Bad d i bs
  · have e1 : Ek.write d i bs = d := by unfold Ek.write; rw [if_pos hb]
    have e2 : Ek.writeE d i bs = 2 := by unfold Ek.writeE; rw [if_pos hb]
    rw [e1, e2]
    refine (rdisk_write_bad w G v d h i (strB bs) (by rw [strB_size]; exact hb)).mono ?_
    rintro e w' ⟨⟨v', he, hd⟩, hw⟩
    exact ⟨⟨v', he, hd.mono (fun q => Or.inl)⟩, hw⟩
  · have hb' := hb
    unfold Ek.Bad at hb'
    by_cases hd : d.dark = true
    · have e1 : Ek.write d i bs = d := by unfold Ek.write; rw [if_neg hb, if_pos hd]
      have e2 : Ek.writeE d i bs = 6 := by unfold Ek.writeE; rw [if_neg hb, if_pos hd]
      rw [e1, e2]
      refine (rdisk_write_dark w G v d h i (strB bs) (by rw [strB_size]; omega) (by omega) (by omega) hd).mono ?_
      rintro e w' ⟨⟨v', he, hd⟩, hw⟩
      exact ⟨⟨v', he, hd.mono (fun q => Or.inl)⟩, hw⟩
    · have e1 : Ek.write d i bs = Ek.change (Ek.added d i bs) := by unfold Ek.write; rw [if_neg hb, if_neg hd]
      have e2 : Ek.writeE d i bs = if d.left = 0 then 6 else 0 := by
        unfold Ek.writeE Ek.changeE; rw [if_neg hb, if_neg hd]; simp [hd]
      rw [e1, e2]
      obtain ⟨j, rfl⟩ : ∃ j : Nat, i = (j : Int) := ⟨i.toNat, by omega⟩
      exact rdisk_write_good w G v d h j (by omega) bs ⟨by omega, h8⟩ (by simpa using hd) hu

theorem rdisk_sync_any (w : World) (G : Nat → Prop) (v : Value) (d : Ek.Dk) (h : DDk w G v d) :
    Calls Try.prog 25 #[v] w fun e w' => (∃ v', e = .returned (.tuple #[v', .int .i64 (Ek.changeE d)]) ∧ DDk w' (fun q => G q ∨ w.heap.size ≤ q) v' (Ek.sync d)) ∧ Below w.heap.size w w' := by
  by_cases hd : d.dark = true
  · rw [(Ek.change_dark hd).2]
    refine (rdisk_sync_dark w G v d h hd).mono ?_
    rintro e w' ⟨⟨v', he, hd⟩, hw⟩
    exact ⟨⟨v', he, hd.mono (fun q => Or.inl)⟩, hw⟩
  · by_cases hz : d.left = 0
    · have e : Ek.changeE d = 6 := by unfold Ek.changeE; rw [if_pos (Or.inr hz)]
      rw [e]
      exact rdisk_sync_out w G v d h (by simpa using hd) hz
    · have e : Ek.changeE d = 0 := by unfold Ek.changeE; rw [if_neg (by simp [hd, hz])]
      rw [e]
      exact rdisk_sync_good w G v d h (by simpa using hd) hz

set_option maxHeartbeats 1000000 in
theorem rdisk_new_bad (w : World) (n : Int) (h : n < 1 ∨ 8192 < n) :
    Calls Try.prog 7 #[.int .i64 n] w fun e w' => e = .returned (.tuple #[.agg #[.slice none 0 0, .slice none 0 0, .int .i64 0, .bool false], .int .i64 2]) ∧ Below w.heap.size w w' := by
  by_cases h1 : n < 1
  · have c1 : decide (n < 1) = true := decide_eq_true h1
    clear h
    go_enter Try.func7, Try.ntmps7
    go_wp2_with fail
    refine bodyPost_ret (v := .tuple #[.agg #[.slice none 0 0, .slice none 0 0, .int .i64 0, .bool false], .int .i64 2]) ?_ rfl ⟨rfl, below1 w _⟩
    rw [results_cell_tmp rfl]
    go_simp
  · have c1 : decide (n < 1) = false := decide_eq_false h1
    have c2 : decide (8192 < n) = true := decide_eq_true (by omega)
    clear h
    go_enter Try.func7, Try.ntmps7
    go_wp2_with fail
    refine bodyPost_ret (v := .tuple #[.agg #[.slice none 0 0, .slice none 0 0, .int .i64 0, .bool false], .int .i64 2]) ?_ rfl ⟨rfl, below1 w _⟩
    rw [results_cell_tmp rfl]
    go_simp
end Go.Proofs.Ythbiibinmofmfaa

/- Plain facts on the sum of bytes, as numbers. A step halves a number and xors what is left of an odd one; steps keep xor; so the sum of bytes is so many steps of their own number. Nothing of the program is named here. -/
namespace Go.Proofs.Ythbiibinmofmfaa.Cr

/-- What is xored into half of an odd number. -/
def poly : Nat := 3988292384
/-- All bits of 32. -/
def ones : Nat := 4294967295
/-- The number that stands for no step. -/
def one : Nat := 2147483648

theorem x3 (a b c : Nat) : a ^^^ b ^^^ c = a ^^^ (b ^^^ c) := Nat.xor_assoc a b c
theorem xc (a b : Nat) : a ^^^ b = b ^^^ a := Nat.xor_comm a b
theorem xl (a b c : Nat) : a ^^^ (b ^^^ c) = b ^^^ (a ^^^ c) := by rw [← x3, xc a b, x3]
theorem xx (a : Nat) : a ^^^ a = 0 := Nat.xor_self a
theorem xxl (a b : Nat) : a ^^^ (a ^^^ b) = b := by rw [← x3, xx, Nat.zero_xor]

/-- One step. -/
def st (c : Nat) : Nat := c / 2 ^^^ (if c % 2 = 1 then poly else 0)

theorem st_zero : st 0 = 0 := rfl

theorem half_xor (a b : Nat) : (a ^^^ b) / 2 = a / 2 ^^^ b / 2 := Nat.xor_div_two

theorem odd_xor (a b : Nat) : (a ^^^ b) % 2 = 1 ↔ ¬ ((a % 2 = 1) ↔ (b % 2 = 1)) := by
  have := @Nat.xor_mod_two_eq_one a b
  exact this

theorem st_xor (a b : Nat) : st (a ^^^ b) = st a ^^^ st b := by
  unfold st
  rw [half_xor]
  by_cases ha : a % 2 = 1 <;> by_cases hb : b % 2 = 1
  · rw [if_neg (by rw [odd_xor]; simp [ha, hb]), if_pos ha, if_pos hb, Nat.xor_zero, x3, xl poly, xx, Nat.xor_zero]
  · rw [if_pos (by rw [odd_xor]; simp [ha, hb]), if_pos ha, if_neg hb, Nat.xor_zero, x3, x3, xc poly]
  · rw [if_pos (by rw [odd_xor]; simp [ha, hb]), if_neg ha, if_pos hb, Nat.xor_zero, x3]
  · rw [if_neg (by rw [odd_xor]; simp [ha, hb]), if_neg ha, if_neg hb, Nat.xor_zero, Nat.xor_zero, Nat.xor_zero]

/-- n steps. -/
def stn : Nat → Nat → Nat
  | 0, c => c
  | n + 1, c => stn n (st c)

theorem stn_zero (n : Nat) : stn n 0 = 0 := by
  induction n with
  | zero => rfl
  | succ n ih => rw [stn, st_zero, ih]

theorem stn_xor (n a b : Nat) : stn n (a ^^^ b) = stn n a ^^^ stn n b := by
  induction n generalizing a b with
  | zero => rfl
  | succ n ih => rw [stn, stn, stn, st_xor, ih]

theorem stn_add (m n c : Nat) : stn (m + n) c = stn n (stn m c) := by
  induction m generalizing c with
  | zero => rw [Nat.zero_add]; rfl
  | succ m ih => rw [Nat.succ_add, stn, stn, ih]

theorem stn_succ (n c : Nat) : stn (n + 1) c = st (stn n c) := by
  rw [stn_add n 1 c]
  rfl

theorem stn_comm (m n c : Nat) : stn m (stn n c) = stn n (stn m c) := by
  rw [← stn_add, ← stn_add, Nat.add_comm]

theorem st_twice (c : Nat) : st (2 * c) = c := by
  unfold st
  rw [if_neg (by omega), Nat.xor_zero]
  omega

theorem stn_shift (k c : Nat) : stn k (c * 2 ^ k) = c := by
  induction k generalizing c with
  | zero => simp [stn]
  | succ k ih =>
    rw [stn, Nat.pow_succ, show c * (2 ^ k * 2) = 2 * (c * 2 ^ k) by rw [← Nat.mul_assoc, Nat.mul_comm], st_twice, ih]

theorem poly_lt : poly < 2 ^ 32 := by decide
theorem ones_lt : ones < 2 ^ 32 := by decide
theorem one_lt : one < 2 ^ 32 := by decide

theorem st_lt (c : Nat) (h : c < 2 ^ 32) : st c < 2 ^ 32 := by
  unfold st
  refine Nat.xor_lt_two_pow (by omega) ?_
  split
  · exact poly_lt
  · omega

theorem stn_lt (n c : Nat) (h : c < 2 ^ 32) : stn n c < 2 ^ 32 := by
  induction n generalizing c with
  | zero => exact h
  | succ n ih => exact ih _ (st_lt c h)

theorem xor_ne (a b : Nat) (h : a ^^^ b = 0) : a = b := by
  have := congrArg (fun x => a ^^^ x) h
  simp only [xxl, Nat.xor_zero] at this
  exact this.symm

theorem st_ne (c : Nat) (h : c < 2 ^ 32) (h0 : st c = 0) : c = 0 := by
  unfold st at h0
  have := xor_ne _ _ h0
  unfold poly at this
  split at this <;> omega

theorem stn_ne (n c : Nat) (h : c < 2 ^ 32) (h0 : stn n c = 0) : c = 0 := by
  induction n generalizing c with
  | zero => exact h0
  | succ n ih => exact st_ne c h (ih _ (st_lt c h) h0)

/-- The number of some bytes, the lowest one first. -/
def num : List Nat → Nat
  | [] => 0
  | x :: l => x ^^^ (num l * 256)

theorem num_append (a b : List Nat) : num (a ++ b) = num a ^^^ num b * 2 ^ (8 * a.length) := by
  induction a with
  | nil => simp [num]
  | cons x a ih =>
    rw [List.cons_append, num, ih, num, List.length_cons, x3]
    congr 1
    have e : (num a ^^^ num b * 2 ^ (8 * a.length)) * 256 = num a * 256 ^^^ num b * 2 ^ (8 * a.length) * 256 := by
      rw [show (256 : Nat) = 2 ^ 8 from rfl, ← Nat.shiftLeft_eq, ← Nat.shiftLeft_eq, ← Nat.shiftLeft_eq, Nat.shiftLeft_xor_distrib, ← Nat.shiftLeft_eq]
    rw [e, Nat.mul_assoc, show 8 * (a.length + 1) = 8 * a.length + 8 by omega, Nat.pow_add]

/-- Bytes done one by one, from the number c on. -/
def run : Nat → List Nat → Nat
  | c, [] => c
  | c, x :: l => run (stn 8 (c ^^^ x)) l

theorem run_snoc (c : Nat) (l : List Nat) (x : Nat) : run c (l ++ [x]) = stn 8 (run c l ^^^ x) := by
  induction l generalizing c with
  | nil => rfl
  | cons y l ih => exact ih _

/-- So many steps of c and of the bytes' number. -/
theorem run_eq (c : Nat) (l : List Nat) : run c l = stn (8 * l.length) (c ^^^ num l) := by
  induction l generalizing c with
  | nil => simp [run, num, stn]
  | cons x l ih =>
    rw [run, ih, num, List.length_cons, show 8 * (l.length + 1) = 8 + 8 * l.length by omega, stn_add, ← x3, stn_xor 8 (c ^^^ x), show (256 : Nat) = 2 ^ 8 from rfl, stn_shift]

/-- The sum of what the sum s is of, and of l. -/
def sum (s : Nat) (l : List Nat) : Nat := ones ^^^ run (ones ^^^ s) l

theorem sum_eq (s : Nat) (l : List Nat) : sum s l = ones ^^^ stn (8 * l.length) (ones ^^^ s ^^^ num l) := by
  unfold sum
  rw [run_eq]

theorem num_lt (l : List Nat) (h : ∀ x ∈ l, x < 256) : num l < 2 ^ (8 * l.length) := by
  induction l with
  | nil => simp [num]
  | cons x l ih =>
    have h1 := ih fun y hy => h y (List.mem_cons_of_mem _ hy)
    have h2 := h x List.mem_cons_self
    rw [num, List.length_cons]
    refine Nat.xor_lt_two_pow (Nat.lt_of_lt_of_le h2 ?_) ?_
    · show 2 ^ 8 ≤ _
      exact Nat.pow_le_pow_right (by omega) (by omega)
    · rw [show 8 * (l.length + 1) = 8 * l.length + 8 by omega, Nat.pow_add]
      exact (Nat.mul_lt_mul_right (by omega)).2 h1

theorem run_lt (c : Nat) (l : List Nat) (hc : c < 2 ^ 32) (h : ∀ x ∈ l, x < 256) : run c l < 2 ^ 32 := by
  induction l generalizing c with
  | nil => exact hc
  | cons x l ih =>
    refine ih _ (stn_lt _ _ (Nat.xor_lt_two_pow hc ?_)) fun y hy => h y (List.mem_cons_of_mem _ hy)
    have := h x List.mem_cons_self
    omega

theorem sum_lt (s : Nat) (l : List Nat) (hs : s < 2 ^ 32) (h : ∀ x ∈ l, x < 256) : sum s l < 2 ^ 32 :=
  Nat.xor_lt_two_pow ones_lt (run_lt _ _ (Nat.xor_lt_two_pow ones_lt hs) h)

/-- A sum goes on. -/
theorem sum_more (s : Nat) (a b : List Nat) : sum (sum s a) b = sum s (a ++ b) := by
  have e : ∀ c, run (run c a) b = run c (a ++ b) := by
    induction a with
    | nil => intro c; rfl
    | cons x a ih => intro c; exact ih _
  unfold sum
  rw [xxl, e]

/-- The sum of both parts by theirs. -/
theorem sum_join (s : Nat) (a b : List Nat) : stn (8 * b.length) (sum s a) ^^^ sum 0 b = sum s (a ++ b) := by
  rw [← sum_more, sum_eq 0, sum_eq (sum s a), Nat.xor_zero, stn_xor _ _ (num b), stn_xor _ _ (num b), stn_xor _ ones]
  rw [xl, x3, xl (stn _ (sum s a))]

/-- The number whose i highest bits of 32 are c's, and the others 0. -/
def part (c i : Nat) : Nat := c / 2 ^ (32 - i) * 2 ^ (32 - i)

theorem part_zero (c : Nat) (h : c < 2 ^ 32) : part c 0 = 0 := by
  unfold part
  rw [Nat.div_eq_of_lt (by simpa using h), Nat.zero_mul]
theorem part_all (c : Nat) : part c 32 = c := by simp [part]

theorem xor_bit (a k : Nat) (b : Bool) : a * 2 ^ (k + 1) ^^^ b.toNat * 2 ^ k = (2 * a + b.toNat) * 2 ^ k := by
  have e : a * 2 ^ (k + 1) = (2 * a) * 2 ^ k := by rw [Nat.pow_succ, Nat.mul_comm (2 ^ k) 2, ← Nat.mul_assoc, Nat.mul_comm a 2]
  rw [e, ← Nat.shiftLeft_eq, ← Nat.shiftLeft_eq, ← Nat.shiftLeft_xor_distrib, Nat.shiftLeft_eq]
  congr 1
  apply Nat.eq_of_testBit_eq
  intro i
  cases i with
  | zero => cases b <;> simp [Nat.testBit_zero] <;> omega
  | succ i =>
    rw [Nat.testBit_succ, Nat.testBit_succ, half_xor]
    have h1 : 2 * a / 2 = a := by omega
    have h2 : b.toNat / 2 = 0 := by cases b <;> rfl
    have h3 : (2 * a + b.toNat) / 2 = a := by cases b <;> simp <;> omega
    rw [h1, h2, h3, Nat.xor_zero]

theorem part_succ (c i : Nat) (h : i < 32) : part c (i + 1) = part c i ^^^ (c.testBit (31 - i)).toNat * 2 ^ (31 - i) := by
  unfold part
  have e1 : 32 - (i + 1) = 31 - i := by omega
  have e2 : 32 - i = (31 - i) + 1 := by omega
  rw [e1, e2, xor_bit]
  congr 1
  have e3 : c / 2 ^ (31 - i + 1) = c / 2 ^ (31 - i) / 2 := by rw [Nat.pow_succ, Nat.div_div_eq_div_mul]
  rw [e3]
  have e4 : (c.testBit (31 - i)).toNat = c / 2 ^ (31 - i) % 2 := by
    rw [Nat.testBit_eq_decide_div_mod_eq]
    rcases Nat.mod_two_eq_zero_or_one (c / 2 ^ (31 - i)) with h | h <;> simp [h]
  rw [e4]
  omega

theorem stn_one (i : Nat) (h : i < 32) : stn i one = 2 ^ (31 - i) := by
  have e : one = 2 ^ (31 - i) * 2 ^ i := by
    rw [← Nat.pow_add, show 31 - i + i = 31 by omega]
    rfl
  rw [e, stn_shift]

/-- What the round i of times leaves, where far is K steps from one. -/
theorem times_succ (K c i : Nat) (h : i < 32) : stn K (part c (i + 1)) = stn K (part c i) ^^^ (if c.testBit (31 - i) then stn (K + i) one else 0) := by
  rw [part_succ c i h, stn_xor]
  congr 1
  rw [Nat.add_comm, stn_add, stn_one i h]
  cases c.testBit (31 - i)
  · simp [stn_zero]
  · simp

/-- Three rows, xor byte by byte. -/
def mix : List Nat → List Nat → List Nat → List Nat
  | a :: l, b :: m, c :: n => (a ^^^ b ^^^ c) :: mix l m n
  | _, _, _ => []

theorem swap3 (a b c d e f : Nat) : a ^^^ b ^^^ c ^^^ (d ^^^ e ^^^ f) = (a ^^^ d) ^^^ (b ^^^ e) ^^^ (c ^^^ f) := by
  simp only [x3]
  rw [xl c d, xl b d, xl c e]

theorem run_mix (c d e : Nat) (l m n : List Nat) (h1 : l.length = m.length) (h2 : l.length = n.length) : run (c ^^^ d ^^^ e) (mix l m n) = run c l ^^^ run d m ^^^ run e n := by
  induction l generalizing c d e m n with
  | nil =>
    obtain rfl : m = [] := List.eq_nil_of_length_eq_zero h1.symm
    obtain rfl : n = [] := List.eq_nil_of_length_eq_zero h2.symm
    rfl
  | cons x l ih =>
    match m, n, h1, h2 with
    | y :: m, z :: n, h1, h2 =>
      simp only [List.length_cons] at h1 h2
      rw [mix, run, run, run, run, swap3, stn_xor, stn_xor, ih _ _ _ _ _ (by omega) (by omega)]

theorem sum_mix (l m n : List Nat) (h1 : l.length = m.length) (h2 : l.length = n.length) : sum 0 (mix l m n) = sum 0 l ^^^ sum 0 m ^^^ sum 0 n := by
  unfold sum
  simp only [Nat.xor_zero]
  have h := run_mix ones ones ones l m n h1 h2
  have e : ones ^^^ ones ^^^ ones = ones := rfl
  rw [e] at h
  rw [h, ← swap3, e]

theorem mix_snoc (l m n : List Nat) (x y z : Nat) (h1 : l.length = m.length) (h2 : l.length = n.length) : mix (l ++ [x]) (m ++ [y]) (n ++ [z]) = mix l m n ++ [x ^^^ y ^^^ z] := by
  induction l generalizing m n with
  | nil =>
    obtain rfl : m = [] := List.eq_nil_of_length_eq_zero h1.symm
    obtain rfl : n = [] := List.eq_nil_of_length_eq_zero h2.symm
    rfl
  | cons a l ih =>
    match m, n, h1, h2 with
    | b :: m, c :: n, h1, h2 =>
      simp only [List.length_cons] at h1 h2
      simp only [List.cons_append, mix, ih _ _ (show l.length = m.length by omega) (show l.length = n.length by omega)]

theorem mix_length (l m n : List Nat) (h1 : l.length = m.length) (h2 : l.length = n.length) : (mix l m n).length = l.length := by
  induction l generalizing m n with
  | nil => rfl
  | cons a l ih =>
    match m, n, h1, h2 with
    | b :: m, c :: n, h1, h2 =>
      simp only [List.length_cons] at h1 h2
      simp only [mix, List.length_cons, ih _ _ (show l.length = m.length by omega) (show l.length = n.length by omega)]

/-- A bit turned in a byte is that bit turned in the number. -/
theorem num_set (l : List Nat) (j k : Nat) (h : j < l.length) : num (l.set j (l[j]?.getD 0 ^^^ 2 ^ k)) = num l ^^^ 2 ^ (8 * j + k) := by
  induction l generalizing j with
  | nil => simp at h
  | cons x l ih =>
    cases j with
    | zero =>
      simp only [List.set_cons_zero, List.getElem?_cons_zero, Option.getD_some, num, Nat.mul_zero, Nat.zero_add]
      rw [x3, x3, xc (2 ^ k)]
    | succ j =>
      simp only [List.length_cons] at h
      simp only [List.set_cons_succ, List.getElem?_cons_succ, num]
      rw [ih j (by omega), x3]
      congr 1
      rw [show (256 : Nat) = 2 ^ 8 from rfl, ← Nat.shiftLeft_eq, ← Nat.shiftLeft_eq, Nat.shiftLeft_xor_distrib]
      congr 1
      rw [Nat.shiftLeft_eq, ← Nat.pow_add]
      congr 1
      omega

/-- Bytes of as many, of which bits in a row are turned, have another sum. -/
theorem sum_burst (l m : List Nat) (t at' : Nat) (hl : m.length = l.length) (h : num m = num l ^^^ t * 2 ^ at') (ha : at' ≤ 8 * l.length) (ht : t < 2 ^ 32) (h0 : t ≠ 0) : sum 0 m ≠ sum 0 l := by
  intro he
  rw [sum_eq, sum_eq, hl, h, ← x3, stn_xor _ _ (t * 2 ^ at')] at he
  have h1 := congrArg (fun x => sum 0 l ^^^ x) he
  simp only [xx, sum_eq] at h1
  rw [x3, xl (stn _ _), xxl, xxl] at h1
  rw [show 8 * l.length = at' + (8 * l.length - at') by omega, stn_add, stn_shift] at h1
  exact h0 (stn_ne _ _ ht h1)

end Go.Proofs.Ythbiibinmofmfaa.Cr
