/- A disk of sectors, plain, and as it lies in memory. -/
import Derived.Test.YthbiibinmofmfaaErow
import Derived.Test.YthbiibinmofmfaaEmap

namespace Go.Proofs.Ythbiibinmofmfaa
set_option maxRecDepth 100000
open Go.RowKit

namespace Ek
/-- A disk: what is sure, what is loose, the fuse (-1: none), the power. 'used' bounds what its maps hold. -/
structure Dk where
  n : Nat
  sure : Nat → List Nat
  loose : List (Nat × List Nat)
  left : Int
  dark : Bool
  used : Nat

/-- The place of the last write into i, of the first k. -/
def lastTo (l : List (Nat × List Nat)) (i : Nat) : Nat → Option Nat
  | 0 => none
  | k + 1 => if (l[k]?).map Prod.fst = some i then some k else lastTo l i k
def lastOf (l : List (Nat × List Nat)) (i : Nat) : Option Nat := lastTo l i l.length
theorem lastTo_append (l m : List (Nat × List Nat)) (i k : Nat) (hk : k ≤ l.length) : lastTo (l ++ m) i k = lastTo l i k := by
  induction k with
  | zero => rfl
  | succ k ih => simp only [lastTo]; rw [ih (by omega), List.getElem?_append_left (by omega)]
theorem lastOf_snoc (l : List (Nat × List Nat)) (a : Nat) (r : List Nat) (i : Nat) : lastOf (l ++ [(a, r)]) i = if i = a then some l.length else lastOf l i := by
  unfold lastOf
  rw [List.length_append, List.length_singleton]
  simp only [lastTo]
  rw [lastTo_append _ _ _ _ (Nat.le_refl _)]
  by_cases h : i = a
  · subst h; simp
  · rw [if_neg h, if_neg (by simp; omega)]
theorem lastTo_lt {l : List (Nat × List Nat)} {i k j : Nat} (h : lastTo l i k = some j) : j < k ∧ (l[j]?).map Prod.fst = some i := by
  induction k with
  | zero => cases h
  | succ k ih =>
    simp only [lastTo] at h
    split at h
    · cases h; rename_i hx; exact ⟨by omega, hx⟩
    · have := ih h; exact ⟨by omega, this.2⟩
theorem lastTo_some (l : List (Nat × List Nat)) (i k j : Nat) (hj : j < k) (h : (l[j]?).map Prod.fst = some i) : ∃ q, lastTo l i k = some q := by
  induction k with
  | zero => omega
  | succ k ih =>
    simp only [lastTo]
    by_cases hc : (l[k]?).map Prod.fst = some i
    · exact ⟨k, by rw [if_pos hc]⟩
    · rw [if_neg hc]
      have : j ≠ k := by rintro rfl; exact hc h
      exact ih (by omega)

/-- What is read of a sector. -/
def now (d : Dk) (i : Nat) : List Nat :=
  match lastOf d.loose i with
  | some k => ((d.loose[k]?).map Prod.snd).getD zrow
  | none => d.sure i

/-- How many bytes are kept of a write into a. -/
def share (a : Nat) (c : Int) : Nat := if c < 1 then 0 else if c = 1 ∨ a = 0 then 512 else (c - 2).toNat % 512
theorem share_le (a : Nat) (c : Int) : share a c ≤ 512 := by
  unfold share
  split
  · omega
  · split
    · omega
    · omega
def lay (s : Nat → List Nat) (a : Nat) (r : List Nat) (n : Nat) : Nat → List Nat := fun j => if j = a then r.take n ++ (s a).drop n else s j
/-- What is sure behind the first k loose writes. -/
def settleTo (s : Nat → List Nat) (l : List (Nat × List Nat)) (keep : Nat → Int) : Nat → Nat → List Nat
  | 0 => s
  | k + 1 => match l[k]? with
    | some p => lay (settleTo s l keep k) p.1 p.2 (share p.1 (keep k))
    | none => settleTo s l keep k
/-- The numbers that a call was handed: 0 where there is none. -/
def nth (keep : List Int) (k : Nat) : Int := keep[k]?.getD 0

structure Ok (d : Dk) : Prop where
  lo : 1 ≤ d.n
  hi : d.n ≤ 8192
  sure : ∀ i, Row (d.sure i)
  loose : ∀ p ∈ d.loose, p.1 < d.n ∧ Row p.2
  left0 : -1 ≤ d.left
  left1 : d.left ≤ 9223372036854775807
  count : d.loose.length ≤ d.used
  used : d.used ≤ 1000000

theorem lay_row {s : Nat → List Nat} {a : Nat} {r : List Nat} {n : Nat} (hs : ∀ i, Row (s i)) (hr : Row r) (hn : n ≤ 512) : ∀ i, Row (lay s a r n i) := by
  intro i
  unfold lay
  split
  · refine ⟨by rw [List.length_append, List.length_take, List.length_drop, hr.1, (hs a).1]; omega, fun x hx => ?_⟩
    rcases List.mem_append.1 hx with h | h
    · exact hr.2 x (List.mem_of_mem_take h)
    · exact (hs a).2 x (List.mem_of_mem_drop h)
  · exact hs i
theorem settle_row {s : Nat → List Nat} {l : List (Nat × List Nat)} (hs : ∀ i, Row (s i)) (hl : ∀ p ∈ l, Row p.2) (keep : Nat → Int) (k : Nat) : ∀ i, Row (settleTo s l keep k i) := by
  induction k with
  | zero => exact hs
  | succ k ih =>
    simp only [settleTo]
    cases h : l[k]? with
    | none => exact ih
    | some p => exact lay_row ih (hl p (List.mem_of_getElem? h)) (share_le _ _)
theorem now_row {d : Dk} (h : Ok d) (i : Nat) : Row (now d i) := by
  unfold now
  split
  · rename_i k _
    cases hk : d.loose[k]? with
    | none => exact zrow_row
    | some p => exact (h.loose p (List.mem_of_getElem? hk)).2
  · exact h.sure i

/-- A change: is it done? -/
def change (d : Dk) : Dk := if d.dark = true ∨ d.left = 0 then { d with dark := true } else if d.left = -1 then d else { d with left := d.left - 1 }
def changeE (d : Dk) : Int := if d.dark = true ∨ d.left = 0 then 6 else 0
/-- Is a write refused? -/
def Bad (d : Dk) (i : Int) (bs : List Nat) : Prop := i < 0 ∨ (d.n : Int) ≤ i ∨ bs.length ≠ 512
instance (d : Dk) (i : Int) (bs : List Nat) : Decidable (Bad d i bs) := by unfold Bad; infer_instance
def added (d : Dk) (i : Int) (bs : List Nat) : Dk := { d with loose := d.loose ++ [(i.toNat, bs)], used := d.used + 1 }
def write (d : Dk) (i : Int) (bs : List Nat) : Dk := if Bad d i bs then d else if d.dark = true then d else change (added d i bs)
def writeE (d : Dk) (i : Int) (bs : List Nat) : Int := if Bad d i bs then 2 else if d.dark = true then 6 else changeE d
def settled (d : Dk) (keep : Nat → Int) : Dk := { d with sure := settleTo d.sure d.loose keep d.loose.length, loose := [] }
def sync (d : Dk) : Dk := if changeE d = 0 then settled (change d) (fun _ => 1) else change d
def fuse (d : Dk) (n : Int) : Dk := { d with left := max n 0 }
def crash (d : Dk) (keep : Nat → Int) : Dk := { settled d keep with left := -1, dark := false }
def readE (d : Dk) (i : Int) : Int := if i < 0 ∨ (d.n : Int) ≤ i then 2 else if d.dark = true then 6 else 0
def fresh (n : Nat) : Dk := { n := n, sure := fun _ => zrow, loose := [], left := -1, dark := false, used := 0 }

theorem fresh_ok (n : Nat) (h1 : 1 ≤ n) (h2 : n ≤ 8192) : Ok (fresh n) :=
  ⟨h1, h2, fun _ => zrow_row, fun _ h => by simp [fresh] at h, by simp [fresh], by simp [fresh], Nat.le_refl _, by simp [fresh]⟩
theorem change_ok {d : Dk} (h : Ok d) : Ok (change d) := by
  unfold change
  split
  · exact ⟨h.lo, h.hi, h.sure, h.loose, h.left0, h.left1, h.count, h.used⟩
  · split
    · exact h
    · rename_i h1 h2
      have a := h.left0
      have b := h.left1
      exact ⟨h.lo, h.hi, h.sure, h.loose, by show -1 ≤ d.left - 1; omega, by show d.left - 1 ≤ _; omega, h.count, h.used⟩
theorem change_n (d : Dk) : (change d).n = d.n := by
  unfold change
  split
  · rfl
  · split <;> rfl
theorem change_loose (d : Dk) : (change d).loose = d.loose := by
  unfold change
  split
  · rfl
  · split <;> rfl
theorem change_sure (d : Dk) : (change d).sure = d.sure := by
  unfold change
  split
  · rfl
  · split <;> rfl
theorem change_used (d : Dk) : (change d).used = d.used := by
  unfold change
  split
  · rfl
  · split <;> rfl
theorem settled_ok {d : Dk} (h : Ok d) (keep : Nat → Int) : Ok (settled d keep) :=
  ⟨h.lo, h.hi, settle_row h.sure (fun p hp => (h.loose p hp).2) keep _, fun _ hp => by simp [settled] at hp, h.left0, h.left1, Nat.zero_le _, h.used⟩
theorem crash_ok {d : Dk} (h : Ok d) (keep : Nat → Int) : Ok (crash d keep) := by
  have := settled_ok h keep
  exact ⟨this.lo, this.hi, this.sure, this.loose, by simp [crash], by simp [crash], this.count, this.used⟩
theorem fuse_ok {d : Dk} (h : Ok d) (n : Int) (hn : n ≤ 9223372036854775807) : Ok (fuse d n) :=
  ⟨h.lo, h.hi, h.sure, h.loose, by show -1 ≤ max n 0; omega, by show max n 0 ≤ _; omega, h.count, h.used⟩
theorem added_ok {d : Dk} (h : Ok d) (i : Int) (bs : List Nat) (hb : ¬ Bad d i bs) (h8 : ∀ x ∈ bs, x < 256) (hu : d.used < 1000000) : Ok (added d i bs) := by
  unfold Bad at hb
  refine ⟨h.lo, h.hi, h.sure, fun p hp => ?_, h.left0, h.left1, ?_, ?_⟩
  · simp only [added, List.mem_append, List.mem_singleton] at hp
    rcases hp with hp | rfl
    · exact h.loose p hp
    · exact ⟨by show i.toNat < d.n; omega, by show bs.length = 512; omega, h8⟩
  · have := h.count
    simp only [added, List.length_append, List.length_singleton]; omega
  · show d.used + 1 ≤ _; omega
theorem write_ok {d : Dk} (h : Ok d) (i : Int) (bs : List Nat) (h8 : ∀ x ∈ bs, x < 256) (hu : d.used < 1000000) : Ok (write d i bs) := by
  unfold write
  split
  · exact h
  · split
    · exact h
    · rename_i hb _; exact change_ok (added_ok h i bs hb h8 hu)
theorem sync_ok {d : Dk} (h : Ok d) : Ok (sync d) := by
  unfold sync
  split
  · exact settled_ok (change_ok h) _
  · exact change_ok h
end Ek

/-- The cells of loose writes. -/
def vws (l : List (Nat × List Nat)) : List Value := l.flatMap fun p => vw p.1 p.2
theorem vws_snoc (l : List (Nat × List Nat)) (a : Nat) (r : List Nat) : vws (l ++ [(a, r)]) = vws l ++ vw a r := by simp [vws]
theorem vws_length (l : List (Nat × List Nat)) (h : ∀ p ∈ l, Row p.2) : (vws l).length = l.length * 513 := by
  induction l with
  | nil => rfl
  | cons p l ih =>
    have h1 := ih (fun q hq => h q (List.mem_cons_of_mem _ hq))
    have h2 := vw_length p.1 p.2 (h p (List.mem_cons_self ..)).1
    simp only [vws, List.flatMap_cons, List.length_append, List.length_cons] at h1 ⊢
    rw [h2, h1]; omega
theorem vws_get (l : List (Nat × List Nat)) (h : ∀ p ∈ l, Row p.2) (k j : Nat) (p : Nat × List Nat) (hk : l[k]? = some p) (hj : j < 513) : (vws l)[k * 513 + j]? = (vw p.1 p.2)[j]? := by
  induction l generalizing k with
  | nil => simp at hk
  | cons q l ih =>
    have h2 := vw_length q.1 q.2 (h q (List.mem_cons_self ..)).1
    cases k with
    | zero =>
      simp only [List.getElem?_cons_zero, Option.some.injEq] at hk
      subst hk
      simp only [vws, List.flatMap_cons, Nat.zero_mul, Nat.zero_add]
      rw [List.getElem?_append_left (by omega)]
    | succ k =>
      have := ih (fun q hq => h q (List.mem_cons_of_mem _ hq)) k (by simpa using hk)
      simp only [vws, List.flatMap_cons]
      rw [List.getElem?_append_right (by omega), h2, show (k + 1) * 513 + j - 513 = k * 513 + j by omega]
      exact this

/-- A disk in memory, at block b; all that it holds lies in S. -/
def Dsk (w : World) (S : Nat → Prop) (b : Nat) (d : Ek.Dk) : Prop :=
  ∃ (bm bl ns : Nat) (lo : Value) (fs : Nat → Option Value),
    Has w b (.cells #[.int .i64 (d.n : Int), .map (some bm), lo, .map (some bl), .int .i64 d.left, .bool d.dark] 62 (0, 0)) ∧
    Mp w bm ns fs ∧ (∀ i, fs i = some (.agg (vb (d.sure i)).toArray) ∨ (fs i = none ∧ d.sure i = zrow)) ∧
    Mp w bl d.loose.length (fun i => (Ek.lastOf d.loose i).map fun (k : Nat) => Value.int .i64 (k : Int)) ∧
    w.ownsRow 0 116 513 lo d.loose.length (vws d.loose) ∧
    S b ∧ S bm ∧ S bl ∧ bm ≠ bl ∧ (∀ g, lo.ownBlock = some g → S g) ∧ 0 ≤ ns ∧ Ek.Ok d

/-- What a call on a disk leaves: the answer v, the disk d', of what was there S alone turned; what it holds now lay in S, or was not there. -/
def DP (w : World) (S : Nat → Prop) (b : Nat) (d' : Ek.Dk) (v : Value) : Ending → World → Prop := fun e w' =>
  e = .returned v ∧ ∃ S' : Nat → Prop, Dsk w' S' b d' ∧ Tch S w w' ∧ ∀ k, S' k → S k ∨ (w.heap.size ≤ k ∧ k < w'.heap.size)

theorem Dsk.ok {w : World} {S : Nat → Prop} {b : Nat} {d : Ek.Dk} (h : Dsk w S b d) : Ek.Ok d := by
  obtain ⟨bm, bl, ns, lo, fs, _, _, _, _, _, _, _, _, _, _, _, ho⟩ := h
  exact ho
/-- What turns other blocks leaves a disk alone. -/
theorem Dsk.tch {w w' : World} {S T : Nat → Prop} {b : Nat} {d : Ek.Dk} (h : Dsk w S b d) (ht : Tch T w w') (hn : ∀ k, S k → ¬ T k) : Dsk w' S b d := by
  obtain ⟨bm, bl, ns, lo, fs, h1, h2, h3, h4, h5, s1, s2, s3, hne, s4, hu, ho⟩ := h
  refine ⟨bm, bl, ns, lo, fs, h1.tch ht (hn _ s1), h2.tch ht (hn _ s2), h3, h4.tch ht (hn _ s3), ?_, s1, s2, s3, hne, s4, hu, ho⟩
  obtain ⟨r1, r2⟩ := h5
  refine ⟨r1, ?_⟩
  rcases r2 with r2 | ⟨g, cap, cur, e1, e2, e3, e4, e5, e6, e7⟩
  · exact Or.inl r2
  · exact Or.inr ⟨g, cap, cur, e1, e2, (ht.block g (Array.getElem?_eq_some_iff.1 e3).1 (hn _ (s4 g (by rw [e1]; rfl)))).trans e3, e4, e5, e6, e7⟩
theorem Dsk.later {w w' : World} {S : Nat → Prop} {b : Nat} {d : Ek.Dk} (h : Dsk w S b d) (hb : Below w.heap.size w w') : Dsk w' S b d :=
  h.tch (T := fun _ => False) (Tch.of_below hb) (fun _ _ h => h)
end Go.Proofs.Ythbiibinmofmfaa
