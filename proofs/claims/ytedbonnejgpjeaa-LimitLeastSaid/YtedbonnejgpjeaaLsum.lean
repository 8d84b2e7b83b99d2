/- What the lengths are: plain facts. -/
import Derived.Test.YtedbonnejgpjeaaLleast
namespace Go.Proofs.Ytedbonnejgpjeaa
namespace Lm

theorem usd_sum (fs : List Nat) (c : Nat × Nat → Nat) (k : Nat) : sm c (usd fs k) = sumTo (fun i => if fs[i]?.getD 0 = 0 then 0 else c (fs[i]?.getD 0, i)) k := by
  induction k with
  | zero => rfl
  | succ k ih =>
    simp only [usd, sumTo, sm_append, ih]
    congr 1
    by_cases h : fs[k]?.getD 0 = 0
    · rw [if_pos h, if_pos h]; rfl
    · rw [if_neg h, if_neg h, sm_cons, sm_nil, Nat.add_zero]
theorem srt_sum (fs : List Nat) (c : Nat × Nat → Nat) : sm c (srt fs) = sumTo (fun i => if fs[i]?.getD 0 = 0 then 0 else c (fs[i]?.getD 0, i)) fs.length := by
  rw [sm_perm c (srt_perm fs), usd_sum]
theorem srt_in (fs : List Nat) (i : Nat) (hi : i < fs.length) (h : fs[i]?.getD 0 ≠ 0) : (fs[i]?.getD 0, i) ∈ srt fs :=
  (srt_perm fs).mem_iff.2 ((usd_mem fs fs.length _).2 ⟨hi, rfl, h⟩)

theorem cnt_none (fs : List Nat) (s : Nat) (h : ∀ p ∈ srt fs, p.2 ≠ s) (t : Nat) : sm (Tr.cnt s) ((sgl fs).take t) = 0 := by
  unfold sgl
  rw [← List.map_take, sm_map]
  have : sm (fun x => Tr.cnt s (Tr.of x)) ((srt fs).take t) = sm (fun _ => 0 * 1) ((srt fs).take t) := sm_congr fun x hx => by
    simp only [Tr.of, Tr.cnt]
    rw [if_neg (h x (List.mem_of_mem_take hx))]
  rw [this, sm_mul]; simp
theorem len_zero (fs : List Nat) (M s : Nat) (hM : 1 ≤ M) (hf : (srt fs).length ≤ 2 ^ M) (h : ∀ p ∈ srt fs, p.2 ≠ s) : len fs M s = 0 := by
  unfold len
  by_cases hn : 2 ≤ (srt fs).length
  · rw [lgt_sum fs M hM hn hf (Tr.cnt s) fun _ _ => rfl]
    have : sm (fun t => sm (Tr.cnt s) ((sgl fs).take t)) (buy fs M) = sm (fun _ => 0 * 1) (buy fs M) := sm_congr fun t _ => cnt_none fs s h t
    rw [this, sm_mul]; simp
  · unfold lgt
    rw [if_pos (by rw [sgl_length]; omega)]
    have := cnt_none fs s h (sgl fs).length
    rwa [List.take_length] at this
theorem len_unused (fs : List Nat) (M i : Nat) (hM : 1 ≤ M) (hf : (srt fs).length ≤ 2 ^ M) (h : fs[i]?.getD 0 = 0) : len fs M i = 0 := by
  refine len_zero fs M i hM hf fun p hp e => ?_
  have := (usd_mem fs fs.length p).1 ((srt_perm fs).mem_iff.1 hp)
  rw [e] at this
  exact this.2.2 (this.2.1.trans h)
/-- Of one that is used alone. -/
theorem one_srt (fs : List Nat) (hn : ¬ 2 ≤ (srt fs).length) (p : Nat × Nat) (hp : p ∈ srt fs) : srt fs = [p] := by
  cases e : srt fs with
  | nil => rw [e] at hp; cases hp
  | cons q l =>
    rw [e] at hp hn
    cases l with
    | nil => rw [List.mem_singleton] at hp; rw [hp]
    | cons r l => simp at hn
theorem len_used (fs : List Nat) (M i : Nat) (hM : 1 ≤ M) (hf : (srt fs).length ≤ 2 ^ M) (hi : i < fs.length) (h : fs[i]?.getD 0 ≠ 0) : 1 ≤ len fs M i := by
  have hp := srt_in fs i hi h
  by_cases hn : 2 ≤ (srt fs).length
  · exact (len_two fs M hM hn hf _ hp).1
  · have e := one_srt fs hn _ hp
    unfold len lgt
    rw [if_pos (by rw [sgl_length]; omega)]
    unfold sgl
    rw [e]
    simp [sm, Tr.of, Tr.cnt]
theorem len_lone (fs : List Nat) (M : Nat) (hn : ¬ 2 ≤ (srt fs).length) (p : Nat × Nat) (hp : p ∈ srt fs) : len fs M p.2 = 1 := by
  have e := one_srt fs hn _ hp
  unfold len lgt
  rw [if_pos (by rw [sgl_length]; omega)]
  unfold sgl
  rw [e]
  simp [sm, Tr.of, Tr.cnt]

theorem lgt_wt (fs : List Nat) (M : Nat) : sm Tr.wt (lgt (sgl fs) M) = leastN (wts fs fs.length) M := by
  have hw : (sgl fs).map Tr.wt = wts fs fs.length := by
    unfold sgl
    rw [List.map_map, ← wts_srt]; rfl
  have hl : (wts fs fs.length).length = (sgl fs).length := by rw [← hw, List.length_map]
  unfold lgt leastN
  rw [hl]
  have hsm : ∀ l : List Tr, sm Tr.wt l = sm (fun x => x) (l.map Tr.wt) := fun l => by rw [sm_map]
  by_cases h : (sgl fs).length < 2
  · rw [if_pos h, if_pos h, hsm, hw]
  · rw [if_neg h, if_neg h, hsm, List.map_take, map_lvl Tr.wt (fun x => x) Tr.wt (fun _ _ => Iff.rfl) .node (fun x y => x + y) (fun _ _ => rfl), hw]
/-- What the lengths cost. -/
theorem cost_len (fs : List Nat) (M : Nat) (hM : 1 ≤ M) (hf : (srt fs).length ≤ 2 ^ M) : sumTo (fun i => fs[i]?.getD 0 * len fs M i) fs.length = leastN (wts fs fs.length) M := by
  have h1 : sm (fun p => p.1 * len fs M p.2) (srt fs) = sumTo (fun i => fs[i]?.getD 0 * len fs M i) fs.length := by
    rw [srt_sum]
    refine sumTo_congr fun i _ => ?_
    by_cases h : fs[i]?.getD 0 = 0
    · rw [if_pos h, h, Nat.zero_mul]
    · rw [if_neg h]
  rw [← h1, ← lgt_wt]
  by_cases hn : 2 ≤ (srt fs).length
  · exact cost_two fs M hM hn hf
  · have : sm (fun p => p.1 * len fs M p.2) (srt fs) = sm Prod.fst (srt fs) := sm_congr fun p hp => by rw [len_lone fs M hn p hp, Nat.mul_one]
    rw [this]
    unfold lgt
    rw [if_pos (by rw [sgl_length]; omega)]
    unfold sgl
    rw [sm_map]; rfl
/-- What they take. -/
theorem kraft15 (fs : List Nat) (M : Nat) (hM : 1 ≤ M) (hM2 : M ≤ 15) (hn : 2 ≤ (srt fs).length) (hf : (srt fs).length ≤ 2 ^ M) : sm (fun p => 2 ^ (15 - len fs M p.2)) (srt fs) = 32768 := by
  have h1 : sm (fun p => 2 ^ (15 - len fs M p.2)) (srt fs) = sm (fun p => 2 ^ (15 - M) * 2 ^ (M - len fs M p.2)) (srt fs) := sm_congr fun p hp => by
    have := len_two fs M hM hn hf p hp
    rw [← Nat.pow_add]; congr 1; omega
  rw [h1, sm_mul, kraft fs M hM hn hf, ← Nat.pow_add, show 15 - M + M = 15 by omega]
theorem take15 (fs : List Nat) (M : Nat) (hM : 1 ≤ M) (hM2 : M ≤ 15) (hf : (srt fs).length ≤ 2 ^ M) : sumTo (fun i => if 0 < len fs M i then 2 ^ (15 - len fs M i) else 0) fs.length = if (srt fs).length < 2 then (srt fs).length * 16384 else 32768 := by
  have h1 : sumTo (fun i => if 0 < len fs M i then 2 ^ (15 - len fs M i) else 0) fs.length = sm (fun p => 2 ^ (15 - len fs M p.2)) (srt fs) := by
    rw [srt_sum]
    refine sumTo_congr fun i hi => ?_
    by_cases h : fs[i]?.getD 0 = 0
    · rw [if_pos h, len_unused fs M i hM hf h]; rfl
    · have := len_used fs M i hM hf hi h
      rw [if_neg h, if_pos (by omega)]
  rw [h1]
  by_cases hn : 2 ≤ (srt fs).length
  · rw [if_neg (by omega), kraft15 fs M hM hM2 hn hf]
  · rw [if_pos (by omega)]
    have h2 : sm (fun p => 2 ^ (15 - len fs M p.2)) (srt fs) = sm (fun _ => 16384 * 1) (srt fs) := sm_congr fun p hp => by rw [len_lone fs M hn p hp]
    rw [h2, sm_mul, Nat.mul_comm]
    congr 1
    induction srt fs with
    | nil => rfl
    | cons x l ih => rw [sm_cons, ih, List.length_cons]; omega

/-- In order. -/
theorem order_len (fs : List Nat) (M : Nat) (hM : 1 ≤ M) (hf : (srt fs).length ≤ 2 ^ M) (i k : Nat) (hi : i < fs.length) (hk : k < fs.length) (h1 : fs[k]?.getD 0 < fs[i]?.getD 0) (h2 : 0 < fs[k]?.getD 0) : len fs M i ≤ len fs M k := by
  have hp := srt_in fs i hi (by omega)
  have hq := srt_in fs k hk (by omega)
  by_cases hn : 2 ≤ (srt fs).length
  · exact order fs M hM hn hf _ _ hp hq h1
  · rw [one_srt fs hn _ hp, List.mem_singleton] at hq
    have := congrArg Prod.fst hq
    simp only at this
    omega

/-- NOTHING COSTS LESS, of lengths for each symbol. -/
theorem best_len (fs : List Nat) (M : Nat) (hM : 1 ≤ M) (hn : 2 ≤ (usd fs fs.length).length) (L : Nat → Nat) (h1 : ∀ i, i < fs.length → fs[i]?.getD 0 ≠ 0 → L i ≤ M)
    (h2 : sumTo (fun i => if fs[i]?.getD 0 = 0 then 0 else 2 ^ (M - L i)) fs.length ≤ 2 ^ M) : leastN (wts fs fs.length) M ≤ sumTo (fun i => fs[i]?.getD 0 * L i) fs.length := by
  have hb := best M hM ((usd fs fs.length).map fun p => (p.1, L p.2)) (fun p hp => by
    obtain ⟨q, hq, rfl⟩ := List.mem_map.1 hp
    have := (usd_mem fs fs.length q).1 hq
    exact h1 q.2 this.1 (by rw [← this.2.1]; exact this.2.2)) (by rw [sm_map, usd_sum]; exact h2)
  have e1 : ((usd fs fs.length).map fun p => (p.1, L p.2)).map Prod.fst = (usd fs fs.length).map Prod.fst := by rw [List.map_map]; rfl
  rw [e1, sm_map, usd_sum, List.length_map] at hb
  unfold leastN
  rw [if_neg (by rw [wts_length]; omega), wts_length]
  refine Nat.le_trans hb (Nat.le_of_eq (sumTo_congr fun i _ => ?_))
  by_cases h : fs[i]?.getD 0 = 0
  · rw [if_pos h, h, Nat.zero_mul]
  · rw [if_neg h]
/-- With one more bit they cost no more. -/
theorem room (fs : List Nat) (M : Nat) (hM : 1 ≤ M) (hf : (srt fs).length ≤ 2 ^ M) : leastN (wts fs fs.length) (M + 1) ≤ leastN (wts fs fs.length) M := by
  by_cases hn : 2 ≤ (srt fs).length
  · have h1 : sumTo (fun i => if fs[i]?.getD 0 = 0 then 0 else 2 ^ (M + 1 - len fs M i)) fs.length = 2 ^ (M + 1) := by
      have := srt_sum fs (fun p => 2 ^ (M + 1 - len fs M p.2))
      rw [← this]
      have h3 : sm (fun p => 2 ^ (M + 1 - len fs M p.2)) (srt fs) = sm (fun p => 2 * 2 ^ (M - len fs M p.2)) (srt fs) := sm_congr fun p hp => by
        have := len_two fs M hM hn hf p hp
        rw [Nat.mul_comm, ← Nat.pow_succ]; congr 1; omega
      rw [h3, sm_mul, kraft fs M hM hn hf, Nat.mul_comm, ← Nat.pow_succ]
    have h2 := best_len fs (M + 1) (by omega) (by rw [← srt_length]; exact hn) (len fs M) (fun i _ _ => by have := len_le fs M hM hf i; omega) (by rw [h1]; exact Nat.le_refl _)
    rw [cost_len fs M hM hf] at h2
    exact h2
  · unfold leastN
    rw [wts_length, ← srt_length, if_pos (by omega), if_pos (by omega)]; exact Nat.le_refl _

/-- Twice as often, twice as much. -/
theorem usd_twice (fs : List Nat) (k : Nat) : usd (fs.map (2 * ·)) k = (usd fs k).map fun p => (2 * p.1, p.2) := by
  induction k with
  | zero => rfl
  | succ k ih =>
    have e : (fs.map (2 * ·))[k]?.getD 0 = 2 * fs[k]?.getD 0 := by
      rw [List.getElem?_map]
      cases fs[k]? <;> rfl
    simp only [usd, List.map_append, ih, e]
    congr 1
    by_cases h : fs[k]?.getD 0 = 0
    · rw [if_pos h, if_pos (by omega)]; rfl
    · rw [if_neg h, if_neg (by omega)]; rfl
theorem srt_twice (fs : List Nat) : (srt (fs.map (2 * ·))).length = (srt fs).length := by
  rw [srt_length, srt_length, List.length_map, usd_twice, List.length_map]
theorem least_twice (fs : List Nat) (M : Nat) : leastN (wts (fs.map (2 * ·)) fs.length) M = 2 * leastN (wts fs fs.length) M := by
  have hw : wts (fs.map (2 * ·)) fs.length = (wts fs fs.length).map (2 * ·) := by
    unfold wts
    rw [usd_twice, List.map_map, map_isrt (fun x => x) (fun x => x) (2 * ·) (fun x y => by show 2 * x < 2 * y ↔ x < y; omega), List.map_map]; rfl
  rw [hw]
  unfold leastN
  rw [List.length_map]
  have hs : ∀ l : List Nat, sm (fun x => x) (l.map (2 * ·)) = 2 * sm (fun x => x) l := fun l => by rw [sm_map, ← sm_mul]
  by_cases h : (wts fs fs.length).length < 2
  · rw [if_pos h, if_pos h, hs]
  · rw [if_neg h, if_neg h, ← map_lvl (fun x => x) (fun x => x) (2 * ·) (fun x y => by show 2 * x < 2 * y ↔ x < y; omega) (fun x y => x + y) (fun x y => x + y) (fun x y => Nat.mul_add 2 x y), ← List.map_take, hs]

/-- Of symbols that come alike often. -/
theorem sel_alike (S : List Tr) (v n : Nat) (_hv : 0 < v) (hn : n = S.length) (hS : ∀ t ∈ S, t.wt = v) (bits : Nat) (hb : n = 2 ^ bits) (r : Nat) (hr : r < n) :
    ∀ j k, 1 ≤ k → k ≤ bits → bits - k ≤ j → 2 * n - 2 ^ k ≤ (lvl Tr.wt .node S j).length → cr (sel Tr.wt .node S j (2 * n - 2 ^ k)) r = bits + 1 - k := by
  have zero : ∀ j, cr (sel Tr.wt .node S j 0) r = 0 := by
    intro j
    induction j with
    | zero => rfl
    | succ j ih =>
      have e : na Tr.wt 0 S (prs .node (lvl Tr.wt .node S j)) = 0 := rfl
      simp only [sel, e, cr_cons]
      simpa using ih
  intro j
  induction j with
  | zero =>
    intro k h1 h2 h3 _
    obtain rfl : k = bits := by omega
    rw [← hb]
    simp only [sel, cr_cons]
    rw [if_pos (by omega)]
    have : cr [] r = 0 := rfl
    omega
  | succ j ih =>
    intro k h1 h2 h3 hl
    have hge : 2 ^ k ≤ n := by rw [hb]; exact Nat.pow_le_pow_right (by omega) h2
    have hs : na Tr.wt (2 * n - 2 ^ k) S (prs .node (lvl Tr.wt .node S j)) = n := by
      have hle := (na_le Tr.wt (2 * n - 2 ^ k) S (prs .node (lvl Tr.wt .node S j)))
      have hrest := na_rest Tr.wt (2 * n - 2 ^ k) S (prs .node (lvl Tr.wt .node S j)) (by rw [prs_length]; rw [lvl_length] at hl; exact hl)
      refine Nat.le_antisymm (by omega) (Nat.le_of_not_lt fun hlt => ?_)
      have h0 : 0 < 2 * n - 2 ^ k - na Tr.wt (2 * n - 2 ^ k) S (prs .node (lvl Tr.wt .node S j)) := by omega
      have hin : na Tr.wt (2 * n - 2 ^ k) S (prs .node (lvl Tr.wt .node S j)) < S.length := by omega
      have hpl : 2 * n - 2 ^ k - na Tr.wt (2 * n - 2 ^ k) S (prs .node (lvl Tr.wt .node S j)) - 1 < (prs Tr.node (lvl Tr.wt .node S j)).length := by omega
      have hz := List.getElem?_eq_getElem hin
      have hy := List.getElem?_eq_getElem hpl
      have hup : Up Tr.wt S := List.pairwise_iff_getElem.2 fun i j h1 h2 _ => by rw [hS _ (List.getElem_mem h1), hS _ (List.getElem_mem h2)]; exact Nat.le_refl _
      have g1 := gap Tr.wt _ S _ hup _ _ h0 hy hz
      rw [hS _ (List.getElem_mem hin)] at g1
      obtain ⟨x, y, ex, ey, e⟩ := prs_get _ _ _ _ hy
      rw [e] at g1
      -- each package of the list weighs as much as a single, at least
      have low : ∀ j, ∀ t ∈ lvl Tr.wt .node S j, v ≤ t.wt := by
        intro j
        induction j with
        | zero => intro t ht; rw [hS t ht]; exact Nat.le_refl _
        | succ j ih2 =>
          intro t ht
          rcases List.mem_append.1 ((mrg_perm Tr.wt _ _).mem_iff.1 ht) with ht | ht
          · rw [hS t ht]; exact Nat.le_refl _
          · obtain ⟨q, hq⟩ := List.getElem?_of_mem ht
            obtain ⟨x, y, e1, _, rfl⟩ := prs_get _ _ _ _ hq
            have := ih2 x (List.mem_of_getElem? e1)
            simp only [Tr.wt]; omega
      have := low j x (List.mem_of_getElem? ex)
      have hw : (Tr.node x y).wt = x.wt + y.wt := rfl
      omega
    simp only [sel, hs, cr_cons]
    rw [if_pos hr]
    by_cases hkb : k = bits
    · subst hkb
      rw [← hb, show 2 * (2 * n - n - n) = 0 by omega, zero j]; omega
    · have e : 2 * (2 * n - 2 ^ k - n) = 2 * n - 2 ^ (k + 1) := by rw [Nat.pow_succ]; omega
      have hl2 := half_le Tr.wt .node S j (2 * n - 2 ^ k) hl
      rw [hs, e] at hl2
      rw [e, ih (k + 1) (by omega) (by omega) (by omega) hl2]; omega
theorem alike (fs : List Nat) (M bits v : Nat) (hv : 0 < v) (hb : 1 ≤ bits) (hbM : bits ≤ M) (hl : fs.length = 2 ^ bits) (hall : ∀ i, i < fs.length → fs[i]?.getD 0 = v) (i : Nat) (hi : i < fs.length) : len fs M i = bits := by
  have hus : (usd fs fs.length).length = fs.length := by
    have : ∀ k, k ≤ fs.length → (usd fs k).length = k := by
      intro k
      induction k with
      | zero => intro _; rfl
      | succ k ih =>
        intro hk
        rw [usd, if_neg (by rw [hall k (by omega)]; omega), List.length_append, ih (by omega)]; rfl
    exact this _ (Nat.le_refl _)
  have hn : (srt fs).length = 2 ^ bits := by rw [srt_length, hus, hl]
  have h2 : 2 ≤ 2 ^ bits := by have := Nat.pow_le_pow_right (n := 2) (by omega) hb; omega
  have hf : (srt fs).length ≤ 2 ^ M := by rw [hn]; exact Nat.pow_le_pow_right (by omega) hbM
  have hp := srt_in fs i hi (by rw [hall i hi]; omega)
  obtain ⟨r, hr⟩ := List.getElem?_of_mem hp
  have hrl := (List.getElem?_eq_some_iff.1 hr).1
  have := len_cr fs M (by omega) (by omega) hf r _ hr
  simp only at this
  rw [this]
  unfold buy
  have hen := enough fs M (by omega) (by omega) hf
  have hsl : (sgl fs).length = 2 ^ bits := by rw [sgl_length, hn]
  have h := sel_alike (sgl fs) v (2 ^ bits) hv hsl.symm (fun t ht => by
    obtain ⟨p, _, rfl, hp2, hp1, _⟩ := sgl_mem fs t ht
    show p.1 = v
    rw [hp1]; exact hall _ hp2) bits rfl r (by omega) (M - 1) 1 (Nat.le_refl _) hb (by omega) (by rw [hsl] at hen; exact hen)
  rw [hsl]
  have e1 : (2 : Nat) ^ 1 = 2 := rfl
  rw [e1] at h
  rw [h]; omega
end Lm
end Go.Proofs.Ytedbonnejgpjeaa
