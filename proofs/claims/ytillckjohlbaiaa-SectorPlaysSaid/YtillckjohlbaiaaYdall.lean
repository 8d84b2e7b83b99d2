/- The document's disk: each call in one contract over the plain disk. -/
import Derived.Test.YtillckjohlbaiaaYdy
import Derived.Test.YtillckjohlbaiaaYdn

namespace Go.Proofs.Ytillckjohlbaiaa
set_option maxRecDepth 100000
open Go.RowKit

theorem rdisk_read_any (w : World) (G : Nat → Prop) (v : Value) (d : Ek.Dk) (h : DDk w G v d) (i : Int) :
    Calls Try.prog 55 #[v, .int .i64 i] w fun e w' => e = .returned (.tuple #[.string (strB (if Ek.readE d i = 0 then Ek.now d i.toNat else [])), .int .i64 (Ek.readE d i)]) ∧ Below w.heap.size w w' := by
  by_cases h1 : i < 0 ∨ (d.n : Int) ≤ i
  · have e : Ek.readE d i = 2 := by unfold Ek.readE; rw [if_pos h1]
    rw [e, if_neg (by decide)]
    exact rdisk_out w G v d h i h1
  · obtain ⟨j, rfl⟩ : ∃ j : Nat, i = (j : Int) := ⟨i.toNat, by omega⟩
    by_cases h2 : d.dark = true
    · have e : Ek.readE d (j : Int) = 6 := by unfold Ek.readE; rw [if_neg h1, if_pos h2]
      rw [e, if_neg (by decide)]
      exact rdisk_dark w G v d h j (by omega) h2
    · have e : Ek.readE d (j : Int) = 0 := by unfold Ek.readE; rw [if_neg h1, if_neg h2]
      rw [e, if_pos rfl]
      exact rdisk_read w G v d h j (by omega) (by simpa using h2)

theorem rdisk_write_any (w : World) (G : Nat → Prop) (v : Value) (d : Ek.Dk) (h : DDk w G v d) (i : Int) (bs : List Nat) (h8 : ∀ x ∈ bs, x < 256) (hu : d.used < 1000000) :
    Calls Try.prog 21 #[v, .int .i64 i, .string (strB bs)] w fun e w' => (∃ v', e = .returned (.tuple #[v', .int .i64 (Ek.writeE d i bs)]) ∧ DDk w' (fun q => G q ∨ w.heap.size ≤ q) v' (Ek.write d i bs)) ∧ Below w.heap.size w w' := by
  by_cases hb : Ek.Bad d i bs
  · have e1 : Ek.write d i bs = d := by unfold Ek.write; rw [if_pos hb]
    have e2 : Ek.writeE d i bs = 2 := by unfold Ek.writeE; rw [if_pos hb]
    rw [e1, e2]
    refine (rdisk_write_bad w G v d h i (strB bs) (by rw [strB_size]; exact hb)).mono ?_
    rintro e w' ⟨⟨v', he, hd⟩, hw⟩
    exact ⟨⟨v', he, hd.mono (fun q => Or.inl)⟩, hw⟩
  · have hb' := hb
    unfold Ek.Bad at hb'
    by_cases hd : d.dark = true
    · have e1 : Ek.write d i bs = d := by unfold Ek.write; rw [if_neg hb, if_pos hd]
      have e2 : Ek.writeE d i bs = 6 := by unfold Ek.writeE; rw [if_neg hb, if_pos hd]
      rw [e1, e2]
      refine (rdisk_write_dark w G v d h i (strB bs) (by rw [strB_size]; omega) (by omega) (by omega) hd).mono ?_
      rintro e w' ⟨⟨v', he, hd⟩, hw⟩
      exact ⟨⟨v', he, hd.mono (fun q => Or.inl)⟩, hw⟩
    · have e1 : Ek.write d i bs = Ek.change (Ek.added d i bs) := by unfold Ek.write; rw [if_neg hb, if_neg hd]
      have e2 : Ek.writeE d i bs = if d.left = 0 then 6 else 0 := by
        unfold Ek.writeE Ek.changeE; rw [if_neg hb, if_neg hd]; simp [hd]
      rw [e1, e2]
      obtain ⟨j, rfl⟩ : ∃ j : Nat, i = (j : Int) := ⟨i.toNat, by omega⟩
      exact rdisk_write_good w G v d h j (by omega) bs ⟨by omega, h8⟩ (by simpa using hd) hu

theorem rdisk_sync_any (w : World) (G : Nat → Prop) (v : Value) (d : Ek.Dk) (h : DDk w G v d) :
    Calls Try.prog 53 #[v] w fun e w' => (∃ v', e = .returned (.tuple #[v', .int .i64 (Ek.changeE d)]) ∧ DDk w' (fun q => G q ∨ w.heap.size ≤ q) v' (Ek.sync d)) ∧ Below w.heap.size w w' := by
  by_cases hd : d.dark = true
  · rw [(Ek.change_dark hd).2]
    refine (rdisk_sync_dark w G v d h hd).mono ?_
    rintro e w' ⟨⟨v', he, hd⟩, hw⟩
    exact ⟨⟨v', he, hd.mono (fun q => Or.inl)⟩, hw⟩
  · by_cases hz : d.left = 0
    · have e : Ek.changeE d = 6 := by unfold Ek.changeE; rw [if_pos (Or.inr hz)]
      rw [e]
      exact rdisk_sync_out w G v d h (by simpa using hd) hz
    · have e : Ek.changeE d = 0 := by unfold Ek.changeE; rw [if_neg (by simp [hd, hz])]
      rw [e]
      exact rdisk_sync_good w G v d h (by simpa using hd) hz

set_option maxHeartbeats 1000000 in
theorem rdisk_new_bad (w : World) (n : Int) (h : n < 1 ∨ 8192 < n) :
    Calls Try.prog 14 #[.int .i64 n] w fun e w' => e = .returned (.tuple #[.agg #[.slice none 0 0, .slice none 0 0, .int .i64 0, .bool false], .int .i64 2]) ∧ Below w.heap.size w w' := by
  by_cases h1 : n < 1
  · have c1 : decide (n < 1) = true := decide_eq_true h1
    clear h
    go_enter Try.func14, Try.ntmps14
    go_wp2_with fail
    refine bodyPost_ret (v := .tuple #[.agg #[.slice none 0 0, .slice none 0 0, .int .i64 0, .bool false], .int .i64 2]) ?_ rfl ⟨rfl, below1 w _⟩
    rw [results_cell_tmp rfl]
    go_simp
  · have c1 : decide (n < 1) = false := decide_eq_false h1
    have c2 : decide (8192 < n) = true := decide_eq_true (by omega)
    clear h
    go_enter Try.func14, Try.ntmps14
    go_wp2_with fail
    refine bodyPost_ret (v := .tuple #[.agg #[.slice none 0 0, .slice none 0 0, .int .i64 0, .bool false], .int .i64 2]) ?_ rfl ⟨rfl, below1 w _⟩
    rw [results_cell_tmp rfl]
    go_simp
end Go.Proofs.Ytillckjohlbaiaa
