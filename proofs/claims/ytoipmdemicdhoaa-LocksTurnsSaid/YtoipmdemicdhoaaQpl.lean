/- Locks, plain: who holds a key, who waits for it; asking and freeing. -/
import Derived.Test.YtoipmdemicdhoaaMem

namespace Go.Proofs.Ytoipmdemicdhoaa
set_option maxRecDepth 100000
namespace Qk

/-- Who holds a key, is it to write; who waits for it, each to write or not. -/
structure St where
  hs : List Nat
  wr : Bool
  row : List (Nat × Bool)
def nob : St := ⟨[], false, []⟩

/-- May one more hold the key? -/
def lets (hs : List Nat) (wr : Bool) (w : Bool) : Bool := hs.isEmpty || (!wr && !w)

/-- The first ones of the row come to hold the key. -/
def prom (hs : List Nat) (wr : Bool) : List (Nat × Bool) → St
  | [] => ⟨hs, wr, []⟩
  | c :: r => if lets hs wr c.2 = true then prom (hs ++ [c.1]) c.2 r else ⟨hs, wr, c :: r⟩
/-- Those who do. -/
def out (hs : List Nat) (wr : Bool) : List (Nat × Bool) → List (Nat × Bool)
  | [] => []
  | c :: r => if lets hs wr c.2 = true then c :: out (hs ++ [c.1]) c.2 r else []

/-- The state behind i of those who come to hold the key. -/
def mid (hs : List Nat) (wr : Bool) (row : List (Nat × Bool)) : Nat → St
  | 0 => ⟨hs, wr, row⟩
  | i + 1 => match row with
    | [] => ⟨hs, wr, []⟩
    | c :: r => mid (hs ++ [c.1]) c.2 r i

theorem out_len (hs : List Nat) (wr : Bool) (row : List (Nat × Bool)) : (out hs wr row).length ≤ row.length := by
  induction row generalizing hs wr with
  | nil => simp [out]
  | cons c r ih =>
    simp only [out]
    split
    · have := ih (hs ++ [c.1]) c.2; simp; omega
    · simp
/-- What is between, while somebody is let in. -/
theorem mid_step (hs : List Nat) (wr : Bool) (row : List (Nat × Bool)) (i : Nat) (h : i < (out hs wr row).length) :
    ∃ c r, (mid hs wr row i).row = c :: r ∧ lets (mid hs wr row i).hs (mid hs wr row i).wr c.2 = true ∧ (out hs wr row)[i]? = some c ∧ mid hs wr row (i + 1) = ⟨(mid hs wr row i).hs ++ [c.1], c.2, r⟩ := by
  induction row generalizing hs wr i with
  | nil => simp [out] at h
  | cons c r ih =>
    simp only [out] at h
    split at h
    · rename_i hl
      cases i with
      | zero => exact ⟨c, r, rfl, hl, by simp [out, hl], by simp [mid]⟩
      | succ i =>
        obtain ⟨c', r', h1, h2, h3, h4⟩ := ih (hs ++ [c.1]) c.2 i (by simpa using h)
        exact ⟨c', r', h1, h2, by simp [out, hl, h3], h4⟩
    · simp at h
theorem mid_end (hs : List Nat) (wr : Bool) (row : List (Nat × Bool)) : mid hs wr row (out hs wr row).length = prom hs wr row ∧
    ((prom hs wr row).row = [] ∨ ∃ c r, (prom hs wr row).row = c :: r ∧ lets (prom hs wr row).hs (prom hs wr row).wr c.2 = false) := by
  induction row generalizing hs wr with
  | nil => simp [out, prom, mid]
  | cons c r ih =>
    simp only [out, prom]
    by_cases hl : lets hs wr c.2 = true
    · rw [if_pos hl, if_pos hl]
      exact ih (hs ++ [c.1]) c.2
    · rw [if_neg hl, if_neg hl]
      exact ⟨rfl, Or.inr ⟨c, r, rfl, by simpa using hl⟩⟩
theorem prom_len (hs : List Nat) (wr : Bool) (row : List (Nat × Bool)) : (prom hs wr row).hs.length + (prom hs wr row).row.length = hs.length + row.length ∧ (prom hs wr row).hs = hs ++ (out hs wr row).map Prod.fst ∧ row = out hs wr row ++ (prom hs wr row).row := by
  induction row generalizing hs wr with
  | nil => simp [out, prom]
  | cons c r ih =>
    simp only [out, prom]
    by_cases hl : lets hs wr c.2 = true
    · rw [if_pos hl, if_pos hl]
      obtain ⟨h1, h2, h3⟩ := ih (hs ++ [c.1]) c.2
      refine ⟨by rw [h1]; simp; omega, by rw [h2]; simp, ?_⟩
      show c :: r = c :: (out (hs ++ [c.1]) c.2 r ++ _)
      rw [← h3]
    · rw [if_neg hl, if_neg hl]
      simp
theorem mid_len (hs : List Nat) (wr : Bool) (row : List (Nat × Bool)) (i : Nat) (h : i ≤ row.length) : (mid hs wr row i).hs.length + (mid hs wr row i).row.length = hs.length + row.length := by
  induction row generalizing hs wr i with
  | nil => cases i <;> simp [mid]
  | cons c r ih =>
    cases i with
    | zero => simp [mid]
    | succ i => simp only [mid]; rw [ih _ _ _ (by simpa using h)]; simp; omega

/-- All keys. -/
abbrev Sts := ByteArray → St
def upd (s : Sts) (k : ByteArray) (x : St) : Sts := fun j => if j = k then x else s j
theorem upd_same (s : Sts) (k : ByteArray) (x : St) : upd s k x k = x := by simp [upd]
theorem upd_ne (s : Sts) {j k : ByteArray} (x : St) (h : j ≠ k) : upd s k x j = s j := by simp [upd, h]

/-- The error of Ask. -/
def askE (s : St) (who : Int) : Int := if who < 0 ∨ 8 ≤ who then 2 else if who.toNat ∈ s.hs ∨ who.toNat ∈ s.row.map Prod.fst then 18 else 0
/-- Is the key held at once? -/
def askB (s : St) (who : Int) (w : Bool) : Bool := decide (askE s who = 0) && s.row.isEmpty && lets s.hs s.wr w
/-- What Ask leaves. -/
def ask (s : St) (who : Int) (w : Bool) : St := if askE s who = 0 then (if askB s who w = true then ⟨s.hs ++ [who.toNat], w, s.row⟩ else ⟨s.hs, s.wr, s.row ++ [(who.toNat, w)]⟩) else s
/-- The error of Free. -/
def freeE (s : St) (who : Int) : Int := if who < 0 ∨ 8 ≤ who then 2 else if who.toNat ∈ s.hs then 0 else 9
/-- Who holds the key no more. -/
def left (s : St) (who : Nat) : List Nat := s.hs.filter (fun h => decide (h ≠ who))
/-- Who holds it now. -/
def freeN (s : St) (who : Int) : List Nat := if freeE s who = 0 then (out (left s who.toNat) s.wr s.row).map Prod.fst else []
/-- What Free leaves, but for the flag of a key that nobody holds. -/
def free (s : St) (who : Int) : St := if freeE s who = 0 then (if (prom (left s who.toNat) s.wr s.row).hs = [] then nob else prom (left s who.toNat) s.wr s.row) else s

/-- What is kept of each key. -/
structure Good (s : St) : Prop where
  lt : (∀ h ∈ s.hs, h < 8) ∧ ∀ c ∈ s.row, c.1 < 8
  nodup : (s.hs ++ s.row.map Prod.fst).Nodup
  alone : s.wr = true → s.hs.length = 1
  empty : s.hs = [] → s = nob
  wait : ∀ c r, s.row = c :: r → lets s.hs s.wr c.2 = false

theorem nodup_lt : ∀ (n : Nat) (l : List Nat), l.Nodup → (∀ x ∈ l, x < n) → l.length ≤ n := by
  intro n
  induction n with
  | zero => intro l _ h; cases l with
    | nil => simp
    | cons a l => exact absurd (h a (by simp)) (by omega)
  | succ n ih =>
    intro l hn h
    by_cases hm : n ∈ l
    · have h1 := ih (l.erase n) (hn.erase n) (fun x hx => by
        have h2 := h x (List.mem_of_mem_erase hx)
        have h3 : x ≠ n := by rintro rfl; exact (List.Nodup.not_mem_erase hn) hx
        omega)
      rw [List.length_erase_of_mem hm] at h1
      omega
    · have h1 := ih l hn (fun x hx => by
        have h2 := h x hx
        have h3 : x ≠ n := by rintro rfl; exact hm hx
        omega)
      omega
theorem Good.le {s : St} (h : Good s) : s.hs.length + s.row.length ≤ 8 := by
  have h1 := nodup_lt 8 _ h.nodup (fun x hx => by
    rw [List.mem_append, List.mem_map] at hx
    rcases hx with hx | ⟨c, hc, rfl⟩
    · exact h.lt.1 x hx
    · exact h.lt.2 c hc)
  simpa using h1
theorem Good.nob : Good nob := ⟨⟨by simp [Qk.nob], by simp [Qk.nob]⟩, by simp [Qk.nob], by simp [Qk.nob], fun _ => rfl, by simp [Qk.nob]⟩

theorem askB_iff (s : St) (who : Int) (w : Bool) : askB s who w = true ↔ askE s who = 0 ∧ s.row = [] ∧ lets s.hs s.wr w = true := by
  simp [askB, List.isEmpty_iff]
  constructor
  · rintro ⟨⟨a, b⟩, c⟩; exact ⟨a, b, c⟩
  · rintro ⟨a, b, c⟩; exact ⟨⟨a, b⟩, c⟩
theorem askE_zero {s : St} {who : Int} (h : askE s who = 0) : 0 ≤ who ∧ who < 8 ∧ who.toNat ∉ s.hs ∧ who.toNat ∉ s.row.map Prod.fst := by
  unfold askE at h
  split at h
  · cases h
  · split at h
    · cases h
    · rename_i h1 h2
      exact ⟨by omega, by omega, fun hh => h2 (Or.inl hh), fun hh => h2 (Or.inr hh)⟩
theorem lets_false {hs : List Nat} {wr w : Bool} (h : lets hs wr w = false) : hs ≠ [] := by
  rintro rfl
  simp [lets] at h
theorem lets_true {hs : List Nat} {wr w : Bool} (h : lets hs wr w = true) : hs = [] ∨ (wr = false ∧ w = false) := by
  simp [lets, List.isEmpty_iff] at h
  exact h

theorem Good.ask {s : St} (h : Good s) (who : Int) (w : Bool) : Good (ask s who w) := by
  unfold Qk.ask
  by_cases he : askE s who = 0
  · rw [if_pos he]
    obtain ⟨h0, h8, hn1, hn2⟩ := askE_zero he
    by_cases hb : askB s who w = true
    · rw [if_pos hb]
      obtain ⟨_, hr, hl⟩ := (askB_iff s who w).1 hb
      have hnd := h.nodup
      rw [hr, List.map_nil, List.append_nil] at hnd
      refine ⟨⟨?_, ?_⟩, ?_, ?_, fun e => by simp at e, fun c r e => ?_⟩
      · intro x hx
        rw [List.mem_append, List.mem_singleton] at hx
        rcases hx with hx | rfl
        · exact h.lt.1 x hx
        · omega
      · simp [hr]
      · show (s.hs ++ [who.toNat] ++ s.row.map Prod.fst).Nodup
        rw [hr, List.map_nil, List.append_nil, List.nodup_append]
        exact ⟨hnd, by simp, by intro a ha b hb; simp at hb; subst hb; rintro rfl; exact hn1 ha⟩
      · intro hw
        rcases lets_true hl with e | ⟨_, e⟩
        · show (s.hs ++ [who.toNat]).length = 1; rw [e]; rfl
        · rw [e] at hw; cases hw
      · have : s.row = c :: r := e
        rw [hr] at this; cases this
    · rw [if_neg hb]
      refine ⟨⟨h.lt.1, ?_⟩, ?_, h.alone, ?_, ?_⟩
      · intro c hc
        rw [List.mem_append, List.mem_singleton] at hc
        rcases hc with hc | rfl
        · exact h.lt.2 c hc
        · show who.toNat < 8; omega
      · show (s.hs ++ (s.row ++ [(who.toNat, w)]).map Prod.fst).Nodup
        rw [List.map_append, ← List.append_assoc, List.nodup_append]
        refine ⟨h.nodup, by simp, ?_⟩
        intro a ha b hb
        simp at hb
        subst hb
        rw [List.mem_append] at ha
        rintro rfl
        exact ha.elim hn1 hn2
      · intro e
        have hs0 : s = Qk.nob := h.empty e
        refine absurd ((askB_iff s who w).2 ⟨he, by rw [hs0]; rfl, by rw [hs0]; rfl⟩) hb
      · intro c r e
        show lets s.hs s.wr c.2 = false
        have e2 : s.row ++ [(who.toNat, w)] = c :: r := e
        cases hrow : s.row with
        | nil =>
          rw [hrow] at e2
          simp at e2
          obtain ⟨rfl, _⟩ := e2
          cases hl : lets s.hs s.wr w with
          | false => rfl
          | true => exact absurd ((askB_iff s who w).2 ⟨he, hrow, hl⟩) hb
        | cons c' r' =>
          rw [hrow] at e2
          simp at e2
          rw [← e2.1]
          exact h.wait c' r' hrow
  · rw [if_neg he]; exact h

/-- Those who come to hold the key: a writer comes alone. -/
theorem prom_alone (hs : List Nat) (wr : Bool) (row : List (Nat × Bool)) (h : wr = true → hs.length = 1 ∨ hs = []) : ((prom hs wr row).wr = true → (prom hs wr row).hs.length = 1 ∨ (prom hs wr row).hs = []) := by
  induction row generalizing hs wr with
  | nil => exact h
  | cons c r ih =>
    simp only [prom]
    by_cases hl : lets hs wr c.2 = true
    · rw [if_pos hl]
      refine ih _ _ (fun hc => Or.inl ?_)
      rcases lets_true hl with e | ⟨_, e⟩
      · rw [e]; rfl
      · rw [e] at hc; cases hc
    · rw [if_neg hl]; exact h
theorem left_sub (s : St) (who : Nat) : (left s who).Sublist s.hs := List.filter_sublist

theorem Good.free {s : St} (h : Good s) (who : Int) : Good (free s who) := by
  unfold Qk.free
  by_cases he : freeE s who = 0
  · rw [if_pos he]
    by_cases hz : (prom (left s who.toNat) s.wr s.row).hs = []
    · rw [if_pos hz]; exact Good.nob
    · rw [if_neg hz]
      obtain ⟨_, h2, h3⟩ := prom_len (left s who.toNat) s.wr s.row
      have hsub := left_sub s who.toNat
      have hmap : (prom (left s who.toNat) s.wr s.row).hs ++ (prom (left s who.toNat) s.wr s.row).row.map Prod.fst = left s who.toNat ++ s.row.map Prod.fst := by
        rw [h2, List.append_assoc, ← List.map_append, ← h3]
      have hmem : ∀ x, x ∈ (prom (left s who.toNat) s.wr s.row).hs → x ∈ s.hs ∨ x ∈ s.row.map Prod.fst := by
        intro x hx
        have : x ∈ left s who.toNat ++ s.row.map Prod.fst := by rw [← hmap]; exact List.mem_append_left _ hx
        rw [List.mem_append] at this
        exact this.imp (fun h => hsub.subset h) id
      refine ⟨⟨fun x hx => ?_, fun c hc => h.lt.2 c (by rw [h3]; exact List.mem_append_right _ hc)⟩, ?_, fun hw => ?_, fun e => absurd e hz, fun c r e => ?_⟩
      · rcases hmem x hx with hh | hh
        · exact h.lt.1 x hh
        · obtain ⟨c, hc, rfl⟩ := List.mem_map.1 hh
          exact h.lt.2 c hc
      · rw [hmap]
        exact h.nodup.sublist (hsub.append (List.Sublist.refl _))
      · have hp := prom_alone (left s who.toNat) s.wr s.row (fun hw => by
          have h1 := h.alone hw
          have h2 := hsub.length_le
          by_cases hl : (left s who.toNat) = []
          · exact Or.inr hl
          · have := List.length_pos_iff.2 hl; exact Or.inl (by omega)) hw
        exact hp.elim id (fun e => absurd e hz)
      · rcases (mid_end (left s who.toNat) s.wr s.row).2 with e2 | ⟨c', r', e2, e3⟩
        · rw [e2] at e; cases e
        · rw [e2] at e; cases e; exact e3
  · rw [if_neg he]; exact h
end Qk
end Go.Proofs.Ytoipmdemicdhoaa
