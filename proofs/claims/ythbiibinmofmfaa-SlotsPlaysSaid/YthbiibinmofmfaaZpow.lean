/- Slots on a disk, plain: what a header says, what is loaded, what is done. -/
import Derived.Test.YthbiibinmofmfaaEdk
import Derived.Test.YthbiibinmofmfaaCrc

namespace Go.Proofs.Ythbiibinmofmfaa
set_option maxRecDepth 100000

namespace Cr
/-- A byte turned is that turned in the number. -/
theorem num_setx (l : List Nat) (j t : Nat) (h : j < l.length) : num (l.set j (l[j]?.getD 0 ^^^ t)) = num l ^^^ t * 2 ^ (8 * j) := by
  induction l generalizing j with
  | nil => simp at h
  | cons x l ih =>
    cases j with
    | zero =>
      simp only [List.set_cons_zero, List.getElem?_cons_zero, Option.getD_some, num, Nat.mul_zero, Nat.pow_zero, Nat.mul_one]
      rw [x3, x3, xc t]
    | succ j =>
      simp only [List.length_cons] at h
      simp only [List.set_cons_succ, List.getElem?_cons_succ, num]
      rw [ih j (by omega), x3]
      congr 1
      have e : ∀ a b : Nat, (a ^^^ b) * 2 ^ 8 = a * 2 ^ 8 ^^^ b * 2 ^ 8 := fun a b => by
        rw [← Nat.shiftLeft_eq, ← Nat.shiftLeft_eq, ← Nat.shiftLeft_eq, Nat.shiftLeft_xor_distrib]
      rw [show (256 : Nat) = 2 ^ 8 from rfl, e, Nat.mul_assoc, ← Nat.pow_add, show 8 * j + 8 = 8 * (j + 1) by omega]
/-- Bytes of which one is another one have another sum. -/
theorem sum_turned (l : List Nat) (j v : Nat) (h : j < l.length) (hl : l[j]?.getD 0 < 256) (hv : v < 256) (hne : v ≠ l[j]?.getD 0) : sum 0 (l.set j v) ≠ sum 0 l := by
  have e : v = l[j]?.getD 0 ^^^ (l[j]?.getD 0 ^^^ v) := by rw [xxl]
  have hx : l[j]?.getD 0 ^^^ v < 2 ^ 8 := Nat.xor_lt_two_pow (by omega) (by omega)
  refine sum_burst l _ (l[j]?.getD 0 ^^^ v) (8 * j) (by rw [List.length_set]) ?_ (by omega) (by omega) (fun h0 => hne (xor_ne _ _ h0).symm)
  rw [← num_setx l j _ h, ← e]
end Cr

namespace Sk
/-- What a header says. -/
structure St where
  gen : Nat
  slot : Nat
  size : Nat
  sum : Nat
def le4 (n : Nat) : List Nat := [n / 1 % 256, n / 256 % 256, n / 65536 % 256, n / 16777216 % 256]
def mark : List Nat := [86, 65, 76, 83]
def h20 (s : St) : List Nat := mark ++ le4 s.gen ++ le4 s.slot ++ le4 s.size ++ le4 s.sum
def h24 (s : St) : List Nat := h20 s ++ le4 (Cr.sum 0 (h20 s))
def header (s : St) : List Nat := h24 s ++ List.replicate 488 0
def num4 (h : List Nat) (i : Nat) : Nat := h[i]?.getD 0 + 256 * (h[i + 1]?.getD 0) + 65536 * (h[i + 2]?.getD 0) + 16777216 * (h[i + 3]?.getD 0)
def told (h : List Nat) : St := ⟨num4 h 4, num4 h 8, num4 h 12, num4 h 16⟩
def Fits (s : St) : Prop := s.gen < 4294967296 ∧ s.slot < 4294967296 ∧ s.size < 4294967296 ∧ s.sum < 4294967296

theorem le4_length (n : Nat) : (le4 n).length = 4 := rfl
theorem le4_byte (n : Nat) : ∀ x ∈ le4 n, x < 256 := by
  intro x hx
  simp only [le4, List.mem_cons, List.not_mem_nil, or_false] at hx
  omega
theorem le4_inj {m n : Nat} (hm : m < 4294967296) (hn : n < 4294967296) (h : le4 m = le4 n) : m = n := by
  simp only [le4, List.cons.injEq, and_true] at h
  omega
theorem h20_length (s : St) : (h20 s).length = 20 := rfl
theorem h20_byte (s : St) : ∀ x ∈ h20 s, x < 256 := by
  intro x hx
  simp only [h20, List.mem_append] at hx
  rcases hx with (((hx | hx) | hx) | hx) | hx
  · simp only [mark, List.mem_cons, List.not_mem_nil, or_false] at hx; omega
  all_goals exact le4_byte _ x hx
theorem sum20 (s : St) : Cr.sum 0 (h20 s) < 4294967296 := Cr.sum_lt 0 _ (by decide) (h20_byte s)
theorem h24_length (s : St) : (h24 s).length = 24 := rfl
theorem h24_byte (s : St) : ∀ x ∈ h24 s, x < 256 := by
  intro x hx
  rcases List.mem_append.1 hx with h | h
  · exact h20_byte s x h
  · exact le4_byte _ x h
theorem header_length (s : St) : (header s).length = 512 := by
  unfold header; rw [List.length_append, h24_length, List.length_replicate]
theorem header_row (s : St) : Row (header s) := ⟨header_length s, fun x hx => by
  rcases List.mem_append.1 hx with h | h
  · exact h24_byte s x h
  · rw [List.eq_of_mem_replicate h]; omega⟩
theorem told_header {s : St} (h : Fits s) : told (header s) = s := by
  obtain ⟨h1, h2, h3, h4⟩ := h
  obtain ⟨g, sl, sz, sm⟩ := s
  simp only at h1 h2 h3 h4
  simp only [told, num4, header, h24, h20, mark, le4, List.cons_append, List.nil_append, List.getElem?_cons_succ, List.getElem?_cons_zero, Option.getD_some, St.mk.injEq]
  refine ⟨?_, ?_, ?_, ?_⟩ <;> omega
theorem header_take (s : St) : (header s).take 20 = h20 s := by
  unfold header h24
  rw [List.append_assoc, List.take_append_of_le_length (by rw [h20_length]; exact Nat.le_refl _), List.take_of_length_le (by rw [h20_length]; exact Nat.le_refl _)]
theorem header_drop (s : St) : ((header s).drop 20).take 4 = le4 (Cr.sum 0 (h20 s)) := by
  unfold header h24
  rw [List.append_assoc, List.drop_left' (h20_length s), List.take_left' (le4_length _)]
theorem header_of20 {s t : St} (h : h20 s = h20 t) : header s = header t := by
  unfold header h24; rw [h]
theorem header_inj {s t : St} (hs : Fits s) (ht : Fits t) (h : header s = header t) : s = t := by
  rw [← told_header hs, ← told_header ht, h]
/-- A row is right if it is the header of what it says. -/
def Right (h : List Nat) : Prop := h = header (told h)
instance (h : List Nat) : Decidable (Right h) := by unfold Right; infer_instance
theorem right_header {s : St} (h : Fits s) : Right (header s) := by unfold Right; rw [told_header h]
theorem fits_told {h : List Nat} (h8 : ∀ x ∈ h, x < 256) : Fits (told h) := by
  have hb : ∀ i : Nat, h[i]?.getD 0 < 256 := fun i => by
    cases e : h[i]? with
    | none => simp
    | some x => exact h8 x (List.mem_of_getElem? e)
  have h9 : ∀ i : Nat, num4 h i < 4294967296 := fun i => by
    unfold num4
    have := hb i; have := hb (i + 1); have := hb (i + 2); have := hb (i + 3); omega
  exact ⟨h9 4, h9 8, h9 12, h9 16⟩
/-- A header of which one byte is another one is not right. -/
theorem turned_bad {s : St} {k v : Nat} (hk : k < 512) (hv : v < 256) (hne : v ≠ (header s)[k]?.getD 0) : ¬ Right ((header s).set k v) := by
  intro hr
  unfold Right at hr
  generalize told ((header s).set k v) = t at hr
  have hkl : k < (header s).length := by rw [header_length]; exact hk
  have hnl : (header s).set k v ≠ header s := by
    intro e
    apply hne
    rw [← e, List.getElem?_set_self hkl]; rfl
  by_cases h20k : k < 20
  · have e1 : (h20 s).set k v = h20 t := by rw [← header_take, ← header_take, ← hr, List.take_set]
    have e2 : le4 (Cr.sum 0 (h20 s)) = le4 (Cr.sum 0 (h20 t)) := by
      rw [← header_drop, ← header_drop, ← hr, List.drop_set_of_lt h20k]
    have e3 := le4_inj (sum20 s) (sum20 t) e2
    rw [← e1] at e3
    have eg : (h20 s)[k]?.getD 0 = (header s)[k]?.getD 0 := by rw [← header_take, List.getElem?_take_of_lt h20k]
    refine Cr.sum_turned (h20 s) k v (by rw [h20_length]; exact h20k) ?_ hv (by rw [eg]; exact hne) e3.symm
    cases e : (h20 s)[k]? with
    | none => simp
    | some x => exact h20_byte s x (List.mem_of_getElem? e)
  · have e1 : h20 s = h20 t := by
      rw [← header_take, ← header_take t, ← hr, List.take_set_of_le (by omega)]
    rw [← header_of20 e1] at hr
    exact hnl hr

/-- How many sectors a slot has; where it begins; its room. -/
def share (n : Nat) : Nat := (n - 1) / 2
def front (n slot : Nat) : Nat := 1 + slot * share n
def room (n : Nat) : Nat := if n < 3 ∨ 8192 < n then 0 else min (512 * share n) 1048576
/-- The sectors from a on, the first k, as f reads them. -/
def secs (f : Nat → List Nat) (a : Nat) : Nat → List Nat
  | 0 => []
  | k + 1 => secs f a k ++ f (a + k)
def bytes (n : Nat) (f : Nat → List Nat) (slot size : Nat) : List Nat := (secs f (front n slot) ((size + 511) / 512)).take size
def content (d : Ek.Dk) (slot size : Nat) : List Nat := bytes d.n (Ek.now d) slot size
/-- What a disk's header says. -/
def says (d : Ek.Dk) : St := told (Ek.now d 0)
def loadE (d : Ek.Dk) : Int :=
  if d.n < 3 then 7 else if d.dark = true then 6 else if ¬ Right (Ek.now d 0) ∨ 1 < (says d).slot ∨ room d.n < (says d).size then 15
  else if Cr.sum 0 (content d (says d).slot (says d).size) ≠ (says d).sum then 15 else 0
def loadB (d : Ek.Dk) : List Nat := if loadE d = 0 then content d (says d).slot (says d).size else []
def loadG (d : Ek.Dk) : Nat := if loadE d = 0 then (says d).gen else 0

/-- What is done on a disk. -/
inductive Step where
  | put (at' : Nat) (row : List Nat)
  | sync
def one (d : Ek.Dk) : Step → Ek.Dk
  | .put i r => Ek.write d (i : Int) r
  | .sync => Ek.sync d
def oneE (d : Ek.Dk) : Step → Int
  | .put i r => Ek.writeE d (i : Int) r
  | .sync => Ek.changeE d
/-- Steps, one after the other, until one fails. -/
def runs (d : Ek.Dk) : List Step → Ek.Dk
  | [] => d
  | x :: xs => if oneE d x = 0 then runs (one d x) xs else one d x
def runsE (d : Ek.Dk) : List Step → Int
  | [] => 0
  | x :: xs => if oneE d x = 0 then runsE (one d x) xs else oneE d x
theorem runs_append (d : Ek.Dk) (xs ys : List Step) : runs d (xs ++ ys) = if runsE d xs = 0 then runs (runs d xs) ys else runs d xs := by
  induction xs generalizing d with
  | nil => simp [runs, runsE]
  | cons x xs ih =>
    simp only [List.cons_append, runs, runsE]
    split
    · exact ih _
    · rename_i h; first | rfl | rw [if_neg h]
theorem runsE_append (d : Ek.Dk) (xs ys : List Step) : runsE d (xs ++ ys) = if runsE d xs = 0 then runsE (runs d xs) ys else runsE d xs := by
  induction xs generalizing d with
  | nil => simp [runs, runsE]
  | cons x xs ih =>
    simp only [List.cons_append, runs, runsE]
    split
    · exact ih _
    · rename_i h; first | rfl | rw [if_neg h]
/-- The pieces of bytes, filled up: the first k. -/
def piece (b : List Nat) (i : Nat) : List Nat := (b.drop (512 * i)).take 512
def padded (p : List Nat) : List Nat := p ++ List.replicate (512 - p.length) 0
def fillTo (n slot : Nat) (b : List Nat) : Nat → List Step
  | 0 => []
  | k + 1 => fillTo n slot b k ++ [.put (front n slot + k) (padded (piece b k))]
def pieces (b : List Nat) : Nat := (b.length + 511) / 512
def fill (n slot : Nat) (b : List Nat) : List Step := fillTo n slot b (pieces b)
def shut (s : St) : List Step := [.put 0 (header s), .sync]
def next (d : Ek.Dk) (b : List Nat) : St := ⟨(says d).gen + 1, 1 - (says d).slot, b.length, Cr.sum 0 b⟩
def commitS (d : Ek.Dk) (b : List Nat) : List Step := fill d.n (1 - (says d).slot) b ++ [.sync] ++ shut (next d b)
def commitE0 (d : Ek.Dk) (b : List Nat) : Int := if loadE d ≠ 0 then loadE d else if (says d).gen = 4294967295 then 3 else if room d.n < b.length then 7 else 0
def commit (d : Ek.Dk) (b : List Nat) : Ek.Dk := if commitE0 d b = 0 then runs d (commitS d b) else d
def commitE (d : Ek.Dk) (b : List Nat) : Int := if commitE0 d b = 0 then runsE d (commitS d b) else commitE0 d b
def format (d : Ek.Dk) : Ek.Dk := if d.n < 3 then d else runs d (shut ⟨0, 0, 0, 0⟩)
def formatE (d : Ek.Dk) : Int := if d.n < 3 then 7 else runsE d (shut ⟨0, 0, 0, 0⟩)

theorem piece_length (b : List Nat) (i : Nat) : (piece b i).length = min 512 (b.length - 512 * i) := by
  unfold piece; rw [List.length_take, List.length_drop]
theorem padded_row (b : List Nat) (h8 : ∀ x ∈ b, x < 256) (i : Nat) : Row (padded (piece b i)) := by
  have hl : (piece b i).length ≤ 512 := by rw [piece_length]; exact Nat.min_le_left _ _
  refine ⟨by unfold padded; rw [List.length_append, List.length_replicate]; omega, fun x hx => ?_⟩
  rcases List.mem_append.1 hx with h | h
  · exact h8 x (List.mem_of_mem_drop (List.mem_of_mem_take h))
  · rw [List.eq_of_mem_replicate h]; omega
theorem fillTo_length (n slot : Nat) (b : List Nat) (k : Nat) : (fillTo n slot b k).length = k := by
  induction k with
  | zero => rfl
  | succ k ih => simp only [fillTo, List.length_append, List.length_singleton, ih]
theorem fillTo_get (n slot : Nat) (b : List Nat) (k i : Nat) (h : i < k) : (fillTo n slot b k)[i]? = some (.put (front n slot + i) (padded (piece b i))) := by
  induction k with
  | zero => omega
  | succ k ih =>
    simp only [fillTo, List.getElem?_append, fillTo_length]
    by_cases hik : i < k
    · rw [if_pos hik]; exact ih hik
    · obtain rfl : i = k := by omega
      rw [if_neg hik, Nat.sub_self]; rfl
end Sk
end Go.Proofs.Ythbiibinmofmfaa

/- What a commit does, and what a crash leaves of it. Plain. -/
namespace Go.Proofs.Ythbiibinmofmfaa
set_option maxRecDepth 100000

namespace Ek
theorem settle_off (s : Nat → List Nat) (l : List (Nat × List Nat)) (keep : Nat → Int) (k i : Nat) (h : ∀ p ∈ l, p.1 ≠ i) : settleTo s l keep k i = s i := by
  induction k with
  | zero => rfl
  | succ k ih =>
    simp only [settleTo]
    cases e : l[k]? with
    | none => exact ih
    | some p =>
      show lay _ _ _ _ i = s i
      unfold lay
      rw [if_neg (fun q => h p (List.mem_of_getElem? e) q.symm)]
      exact ih
theorem change_out {d : Dk} (h : d.left = 0) : (change d).dark = true ∧ changeE d = 6 := by
  unfold change changeE
  rw [if_pos (Or.inr h), if_pos (Or.inr h)]
  exact ⟨rfl, rfl⟩
theorem change_on {d : Dk} (h : d.dark = false) (h0 : d.left ≠ 0) : changeE d = 0 ∧ (change d).dark = false ∧ (-1 ≤ d.left → -1 ≤ (change d).left) ∧ (d.left = -1 → (change d).left = -1) := by
  have cn : ¬ (d.dark = true ∨ d.left = 0) := by simp [h, h0]
  refine ⟨by unfold changeE; rw [if_neg cn], ?_, ?_, ?_⟩
  · unfold change; rw [if_neg cn]; split <;> exact h
  · intro q; unfold change; rw [if_neg cn]; split
    · exact q
    · show -1 ≤ d.left - 1; omega
  · intro q; unfold change; rw [if_neg cn, if_pos q]; exact q
theorem now_clean {d : Dk} (h : d.loose = []) (i : Nat) : now d i = d.sure i := by
  unfold now lastOf; rw [h]; rfl
theorem now_settled_clean (d : Dk) (keep : Nat → Int) (i : Nat) : now (settled d keep) i = settleTo d.sure d.loose keep d.loose.length i := now_clean rfl i
theorem now_crash (d : Dk) (keep : Nat → Int) (i : Nat) : now (crash d keep) i = settleTo d.sure d.loose keep d.loose.length i := now_clean rfl i
end Ek

namespace Sk
theorem secs_length (f : Nat → List Nat) (a k : Nat) (h : ∀ i, (f i).length = 512) : (secs f a k).length = 512 * k := by
  induction k with
  | zero => rfl
  | succ k ih => simp only [secs, List.length_append, ih, h]; omega
theorem secs_same {f g : Nat → List Nat} {a k : Nat} (h : ∀ i, a ≤ i → i < a + k → f i = g i) : secs f a k = secs g a k := by
  induction k with
  | zero => rfl
  | succ k ih =>
    simp only [secs]
    rw [ih (fun i h1 h2 => h i h1 (by omega)), h (a + k) (by omega) (by omega)]
/-- What f has as a disk of n sectors: bytes and their generation. -/
def Loads (n : Nat) (f : Nat → List Nat) (b : List Nat) (g : Nat) (sl : Nat) : Prop :=
  ∃ s : St, Fits s ∧ f 0 = header s ∧ s.slot = sl ∧ sl ≤ 1 ∧ s.size ≤ room n ∧ s.gen = g ∧ bytes n f s.slot s.size = b ∧ Cr.sum 0 b = s.sum
theorem room_share (n size : Nat) (h : size ≤ room n) : (size + 511) / 512 ≤ share n := by
  unfold room at h
  split at h <;> omega
theorem Loads.same {n : Nat} {f f' : Nat → List Nat} {b : List Nat} {g sl : Nat} (h : Loads n f b g sl) (h0 : f' 0 = f 0) (hs : ∀ i, front n sl ≤ i → i < front n sl + share n → f' i = f i) : Loads n f' b g sl := by
  obtain ⟨s, h1, h2, h3, h4, h5, h6, h7, h8⟩ := h
  refine ⟨s, h1, h0.trans h2, h3, h4, h5, h6, ?_, h8⟩
  rw [← h7]
  unfold bytes
  rw [secs_same (f := f') (g := f) (fun i hi hj => hs i (by rw [← h3]; exact hi) (by have := room_share n s.size h5; rw [← h3]; omega))]
theorem Loads.told {d : Ek.Dk} {b : List Nat} {g sl : Nat} (h : Loads d.n (Ek.now d) b g sl) (hd : d.dark = false) (hn : 3 ≤ d.n) : loadE d = 0 ∧ loadB d = b ∧ loadG d = g ∧ (says d).slot = sl ∧ (says d).gen = g := by
  obtain ⟨s, h1, h2, h3, h4, h5, h6, h7, h8⟩ := h
  have e : says d = s := by unfold says; rw [h2, told_header h1]
  have e0 : loadE d = 0 := by
    unfold loadE
    rw [if_neg (by omega), if_neg (by simp [hd]), if_neg, if_neg]
    · rw [e]; unfold content; rw [h7, h8]; simp
    · rw [e, h2]
      rintro (q | q | q)
      · exact q (right_header h1)
      · omega
      · omega
  refine ⟨e0, ?_, ?_, by rw [e]; exact h3, by rw [e]; exact h6⟩
  · unfold loadB; rw [if_pos e0, e]; exact h7
  · unfold loadG; rw [if_pos e0, e]; exact h6
theorem Loads.of {d : Ek.Dk} (hok : Ek.Ok d) (h : loadE d = 0) : Loads d.n (Ek.now d) (loadB d) (loadG d) (says d).slot ∧ d.dark = false ∧ 3 ≤ d.n := by
  have h' := h
  unfold loadE at h
  by_cases c1 : d.n < 3
  · rw [if_pos c1] at h; exact absurd h (by decide)
  rw [if_neg c1] at h
  by_cases c2 : d.dark = true
  · rw [if_pos c2] at h; exact absurd h (by decide)
  rw [if_neg c2] at h
  by_cases c3 : ¬ Right (Ek.now d 0) ∨ 1 < (says d).slot ∨ room d.n < (says d).size
  · rw [if_pos c3] at h; exact absurd h (by decide)
  rw [if_neg c3] at h
  by_cases c4 : Cr.sum 0 (content d (says d).slot (says d).size) ≠ (says d).sum
  · rw [if_pos c4] at h; exact absurd h (by decide)
  have c5 : Right (Ek.now d 0) := Classical.byContradiction fun q => c3 (Or.inl q)
  have c6 : ¬ 1 < (says d).slot := fun q => c3 (Or.inr (Or.inl q))
  have c7 : ¬ room d.n < (says d).size := fun q => c3 (Or.inr (Or.inr q))
  have eB : loadB d = content d (says d).slot (says d).size := by unfold loadB; rw [if_pos h']
  have eG : loadG d = (says d).gen := by unfold loadG; rw [if_pos h']
  refine ⟨⟨says d, fits_told (Ek.now_row hok 0).2, c5, rfl, by omega, by omega, eG.symm, eB.symm, ?_⟩, by simpa using c2, by omega⟩
  rw [eB]; exact Classical.not_not.1 c4

/-- Bytes laid down piece by piece are these bytes. -/
theorem padded_take (b : List Nat) (k : Nat) (h : 512 * k < b.length) : (padded (piece b k)).take (b.length - 512 * k) = piece b k := by
  have hl := piece_length b k
  unfold padded
  by_cases h2 : b.length - 512 * k < 512
  · rw [List.take_append_of_le_length (by omega), List.take_of_length_le (by omega)]
  · rw [show 512 - (piece b k).length = 0 by omega, List.replicate_zero, List.append_nil, List.take_of_length_le (by omega)]
theorem secs_pieces (f : Nat → List Nat) (a : Nat) (b : List Nat) (hf : ∀ i, i < pieces b → f (a + i) = padded (piece b i)) (hl : ∀ i, (f i).length = 512) (k : Nat) (hk : k ≤ pieces b) : (secs f a k).take b.length = b.take (512 * k) := by
  induction k with
  | zero => simp [secs]
  | succ k ih =>
    have hp : 512 * k < b.length := by unfold pieces at hk; omega
    have hs := secs_length f a k hl
    simp only [secs]
    rw [List.take_append, hs, ih (by omega), hf k (by omega), padded_take b k hp]
    unfold piece
    rw [show 512 * (k + 1) = 512 * k + 512 by omega, List.take_add]
theorem bytes_pieces (n : Nat) (f : Nat → List Nat) (slot : Nat) (b : List Nat) (hf : ∀ i, i < pieces b → f (front n slot + i) = padded (piece b i)) (hl : ∀ i, (f i).length = 512) : bytes n f slot b.length = b := by
  unfold bytes
  rw [show (b.length + 511) / 512 = pieces b from rfl, secs_pieces f _ b hf hl _ (Nat.le_refl _), List.take_of_length_le (by unfold pieces; omega)]

/-- The writes of the first k pieces. -/
def rows (n slot : Nat) (b : List Nat) (k : Nat) : List (Nat × List Nat) := (List.range k).map fun i => (front n slot + i, padded (piece b i))
theorem rows_succ (n slot : Nat) (b : List Nat) (k : Nat) : rows n slot b (k + 1) = rows n slot b k ++ [(front n slot + k, padded (piece b k))] := by simp [rows, List.range_succ]
theorem rows_mem {n slot : Nat} {b : List Nat} {k : Nat} {p : Nat × List Nat} (h : p ∈ rows n slot b k) : ∃ i, i < k ∧ p = (front n slot + i, padded (piece b i)) := by
  simp only [rows, List.mem_map, List.mem_range] at h
  obtain ⟨i, hi, rfl⟩ := h
  exact ⟨i, hi, rfl⟩
theorem rows_length (n slot : Nat) (b : List Nat) (k : Nat) : (rows n slot b k).length = k := by simp [rows]
theorem padded_length (b : List Nat) (i : Nat) : (padded (piece b i)).length = 512 := by
  have := piece_length b i
  unfold padded; rw [List.length_append, List.length_replicate]; omega
theorem rows_row {n slot : Nat} {b : List Nat} {k : Nat} (h8 : ∀ x ∈ b, x < 256) : ∀ p ∈ rows n slot b k, Row p.2 := fun p hp => by
  obtain ⟨i, _, rfl⟩ := rows_mem hp
  exact padded_row b h8 i
theorem settle_rows (s : Nat → List Nat) (hs : ∀ i, Row (s i)) (n slot : Nat) (b : List Nat) (h8 : ∀ x ∈ b, x < 256) (m k : Nat) (hk : k ≤ m) (i : Nat) (hi : i < k) : Ek.settleTo s (rows n slot b m) (fun _ => 1) k (front n slot + i) = padded (piece b i) := by
  induction k with
  | zero => omega
  | succ k ih =>
    have e : (rows n slot b m)[k]? = some (front n slot + k, padded (piece b k)) := by
      simp only [rows, List.getElem?_map, List.getElem?_range (show k < m by omega)]; rfl
    simp only [Ek.settleTo, e]
    unfold Ek.lay
    by_cases hik : i = k
    · subst hik
      have hsh : Ek.share (front n slot + i) 1 = 512 := by unfold Ek.share; rw [if_neg (by decide), if_pos (Or.inl rfl)]
      rw [if_pos rfl, hsh, List.take_of_length_le (by rw [padded_length]; exact Nat.le_refl _)]
      rw [List.drop_of_length_le (by rw [(Ek.settle_row hs (rows_row h8) _ _ _).1]; exact Nat.le_refl _), List.append_nil]
    · rw [if_neg (by omega)]
      exact ih (by omega) (by omega)

theorem runs_one (d : Ek.Dk) (x : Step) : runs d [x] = one d x := by simp only [runs]; split <;> rfl
theorem runsE_one (d : Ek.Dk) (x : Step) : runsE d [x] = oneE d x := by
  simp only [runsE]; split
  · rename_i h; exact h.symm
  · rfl
/-- Where the first k pieces are written: all is done, or the power is gone. -/
theorem fill_runs {d : Ek.Dk} {n slot : Nat} {b : List Nat} (hn : d.n = n) (hd : d.dark = false) (hl : -1 ≤ d.left) (hsl : slot ≤ 1) (k : Nat) (hk : k ≤ share n) :
    (runsE d (fillTo n slot b k) = 0 ∧ (runs d (fillTo n slot b k)).loose = d.loose ++ rows n slot b k ∧ (runs d (fillTo n slot b k)).dark = false ∧ (runs d (fillTo n slot b k)).n = n ∧ (runs d (fillTo n slot b k)).sure = d.sure ∧ (runs d (fillTo n slot b k)).used = d.used + k ∧ -1 ≤ (runs d (fillTo n slot b k)).left ∧ (d.left = -1 → (runs d (fillTo n slot b k)).left = -1)) ∨
    (runsE d (fillTo n slot b k) = 6 ∧ (∃ m, m ≤ k ∧ (runs d (fillTo n slot b k)).loose = d.loose ++ rows n slot b m) ∧ (runs d (fillTo n slot b k)).dark = true ∧ (runs d (fillTo n slot b k)).n = n ∧ (runs d (fillTo n slot b k)).sure = d.sure ∧ (runs d (fillTo n slot b k)).used ≤ d.used + k ∧ d.left ≠ -1) := by
  induction k with
  | zero => exact Or.inl ⟨rfl, by simp [runs, fillTo, rows], hd, hn, rfl, rfl, hl, fun h => h⟩
  | succ k ih =>
    simp only [fillTo, runs_append, runsE_append]
    rcases ih (by omega) with ⟨h0, h1, h2, h3, h4, h5, h6, h7⟩ | ⟨h0, h1, h2, h3, h4, h5, h6⟩
    · generalize runs d (fillTo n slot b k) = x at h1 h2 h3 h4 h5 h6 h7
      rw [if_pos h0, if_pos h0]
      have hin : front n slot + k < n := by
        unfold front
        have : slot * share n ≤ 1 * share n := Nat.mul_le_mul_right _ hsl
        have : 1 + 2 * share n ≤ n := by unfold share at hk ⊢; omega
        omega
      have hbad : ¬ Ek.Bad x ((front n slot + k : Nat) : Int) (padded (piece b k)) := by
        unfold Ek.Bad
        rw [h3, padded_length]
        omega
      have ew : Ek.write x ((front n slot + k : Nat) : Int) (padded (piece b k)) = Ek.change (Ek.added x ((front n slot + k : Nat) : Int) (padded (piece b k))) := by
        unfold Ek.write; rw [if_neg hbad, if_neg (by simp [h2])]
      have eE : Ek.writeE x ((front n slot + k : Nat) : Int) (padded (piece b k)) = Ek.changeE x := by
        unfold Ek.writeE; rw [if_neg hbad, if_neg (by simp [h2])]
      have el : (Ek.added x ((front n slot + k : Nat) : Int) (padded (piece b k))).loose = d.loose ++ rows n slot b (k + 1) := by
        rw [rows_succ, ← List.append_assoc, ← h1]; rfl
      simp only [runs_one, runsE_one, one, oneE]
      rw [ew, eE]
      by_cases h9 : x.left = 0
      · have c1 : Ek.changeE x = 6 := (Ek.change_out h9).2
        refine Or.inr ⟨c1, ⟨k + 1, Nat.le_refl _, ?_⟩, ?_, ?_, ?_, ?_, fun q => by rw [h7 q] at h9; exact absurd h9 (by decide)⟩
        · rw [Ek.change_loose]; exact el
        · exact (Ek.change_out (d := Ek.added x _ _) h9).1
        · rw [Ek.change_n]; exact h3
        · rw [Ek.change_sure]; exact h4
        · rw [Ek.change_used]; show x.used + 1 ≤ _; omega
      · have c1 : Ek.changeE x = 0 := (Ek.change_on h2 h9).1
        obtain ⟨_, c2, c3, c4⟩ := Ek.change_on (d := Ek.added x ((front n slot + k : Nat) : Int) (padded (piece b k))) h2 h9
        refine Or.inl ⟨c1, ?_, ?_, ?_, ?_, ?_, ?_, ?_⟩
        · rw [Ek.change_loose]; exact el
        · exact c2
        · rw [Ek.change_n]; exact h3
        · rw [Ek.change_sure]; exact h4
        · rw [Ek.change_used]; show x.used + 1 = _; omega
        · exact c3 h6
        · intro q
          exact c4 (h7 q)
    · rw [if_neg (by rw [h0]; decide), if_neg (by rw [h0]; decide)]
      obtain ⟨m, hm, hm2⟩ := h1
      exact Or.inr ⟨h0, ⟨m, by omega, hm2⟩, h2, h3, h4, by omega, h6⟩
end Sk
end Go.Proofs.Ythbiibinmofmfaa
