/- Write of the document's own disk, where it is done. -/
import Derived.Test.YthbiibinmofmfaaQtail
import Derived.Test.YthbiibinmofmfaaEwri
import Derived.Test.YthbiibinmofmfaaElive
import Derived.Test.YthbiibinmofmfaaElv

namespace Go.Proofs.Ythbiibinmofmfaa
set_option maxRecDepth 100000
open Go.RowKit

theorem Try.infoPut : (Try.prog.info? 82).map (fun i => (i.zero, i.size, i.bytes)) = some (some (.agg #[.int .i64 0, .string ByteArray.empty]), 2, 24) := by kernel_rfl
/-- Writes as the document keeps them: two cells each. -/
def vputs : List (Nat × List Nat) → List Value
  | [] => []
  | p :: l => .int .i64 ((p.1 : Nat) : Int) :: .string (strB p.2) :: vputs l
theorem vputs_length (l : List (Nat × List Nat)) : (vputs l).length = l.length * 2 := by
  induction l with
  | nil => rfl
  | cons p l ih => simp only [vputs, List.length_cons, ih]; omega
theorem vputs_one (l : List (Nat × List Nat)) : ∀ u ∈ vputs l, u.oneCell' = true := by
  induction l with
  | nil => intro u hu; simp [vputs] at hu
  | cons p l ih =>
    intro u hu
    simp only [vputs, List.mem_cons] at hu
    rcases hu with rfl | rfl | hu
    · rfl
    · rfl
    · exact ih u hu
theorem vputs_snoc (l : List (Nat × List Nat)) (p : Nat × List Nat) : vputs (l ++ [p]) = vputs l ++ [.int .i64 ((p.1 : Nat) : Int), .string (strB p.2)] := by
  induction l with
  | nil => rfl
  | cons q l ih => simp only [List.cons_append, vputs, ih]
theorem vputs_at {l : List (Nat × List Nat)} {k j : Nat} {r : List Nat} (h : l[k]? = some (j, r)) : (vputs l)[k * 2]? = some (.int .i64 ((j : Nat) : Int)) ∧ (vputs l)[k * 2 + 1]? = some (.string (strB r)) := by
  induction l generalizing k with
  | nil => simp at h
  | cons q l ih =>
    cases k with
    | zero =>
      simp only [List.getElem?_cons_zero, Option.some.injEq] at h
      subst h
      exact ⟨rfl, rfl⟩
    | succ k =>
      rw [List.getElem?_cons_succ] at h
      obtain ⟨a, b⟩ := ih h
      have e1 : (k + 1) * 2 = k * 2 + 1 + 1 := by omega
      rw [e1]
      simp only [vputs, List.getElem?_cons_succ]
      exact ⟨a, b⟩
/-- What was appended to none. -/
theorem puts_run (w : World) (la : Option Addr) (lc : Nat) (l : List (Nat × List Nat)) (hl : l.length ≤ 1000000) (hn : la = none → lc = 0)
    (hc : ∀ k j r, l[k]? = some (j, r) → ∃ g off, la = some ⟨g, off, none⟩ ∧ w.cell? ⟨g, off + k * 2, none⟩ = some (.int .i64 ((j : Nat) : Int)) ∧ w.cell? ⟨g, off + k * 2 + 1, none⟩ = some (.string (strB r))) :
    ∃ g capn w', (Builtin.append_ #[30, 30] 30 #[.slice (some ⟨w.heap.size, 0, none⟩) 0 0, .slice la l.length lc]).run Try.prog (w.alloc (.cells #[] 82)) = .ok (.slice (some ⟨g, 0, none⟩) l.length capn) w' ∧
      w'.ownsRow w.heap.size 82 2 (.slice (some ⟨g, 0, none⟩) l.length capn) l.length (vputs l) ∧ Below w.heap.size w w' := by
  obtain ⟨i0, hi, hz0, hz1, hz2⟩ := info_parts Try.infoPut
  have hb := below1 w (.cells #[] 82)
  have hown := World.ownsRow_lit (base := w.heap.size) (e := 82) (size := 2) w #[] 0 (Nat.le_refl _) (by unfold maxLen; omega) rfl
  have hla : la = none → l = [] := fun e => by
    cases l with
    | nil => rfl
    | cons p l =>
      obtain ⟨g, off, e2, _⟩ := hc 0 p.1 p.2 rfl
      rw [e] at e2; cases e2
  obtain ⟨g, capn, w', hrun, hown', hgrow⟩ := run_append_mine (P := Try.prog) (w := w.alloc (.cells #[] 82)) w.heap.size 30 30 82 i0 _ 2 24 Try.underlying30 hi hz0 hz1 hz2 rfl (by decide)
    w.heap.size 0 0 [] hown la l.length lc (vputs l) (vputs_length l) (fun e => ⟨by rw [hla e]; rfl, hn e⟩) (fun h0 => by
      obtain ⟨p0, hp0⟩ : ∃ p, l[0]? = some p := ⟨_, List.getElem?_eq_getElem h0⟩
      obtain ⟨g, off, e, _⟩ := hc 0 p0.1 p0.2 hp0
      refine ⟨⟨g, off, none⟩, e, fun j u hj => ?_⟩
      have hjl : j < l.length * 2 := by rw [← vputs_length]; exact (List.getElem?_eq_some_iff.1 hj).1
      obtain ⟨q, hq⟩ : ∃ q, l[j / 2]? = some q := ⟨_, List.getElem?_eq_getElem (by omega)⟩
      obtain ⟨g2, off2, e2, c1, c2⟩ := hc (j / 2) q.1 q.2 hq
      rw [e] at e2
      cases e2
      obtain ⟨v1, v2⟩ := vputs_at (l := l) (k := j / 2) (j := q.1) (r := q.2) hq
      have hlt := World.block_lt_of_cell? w _ c1
      rw [Addr.add_mid, hb.cell (p := ⟨g, off + j, none⟩) hlt]
      rcases Nat.mod_two_eq_zero_or_one j with hm | hm
      · have ej : j = j / 2 * 2 := by omega
        rw [ej] at hj ⊢
        rw [v1] at hj
        rw [c1]; exact hj
      · have ej : j = j / 2 * 2 + 1 := by omega
        rw [ej] at hj ⊢
        rw [v2] at hj
        rw [← Nat.add_assoc, c2]; exact hj) (vputs_one l) (by unfold maxLen; omega) (by omega) (by simp)
  have HB : Below w.heap.size w w' := (hb.mono (Nat.le_refl _)).grown hgrow (by simp) (fun k e => by cases e; exact Nat.le_refl _)
  rw [Nat.zero_add, List.nil_append] at hown'
  rw [Nat.zero_add] at hrun
  exact ⟨g, capn, w', hrun, hown', HB⟩
/-- One more. -/
theorem puts_more {w w2 : World} {base g capn : Nat} {l : List (Nat × List Nat)} (h : w.ownsRow base 82 2 (.slice (some ⟨g, 0, none⟩) l.length capn) l.length (vputs l)) (hb : Below w.heap.size w w2) (j : Nat) (r : List Nat) (hl : l.length ≤ 1000000) (g2 : Nat)
    (hg : Has w2 g2 (.cells #[.int .i64 ((j : Nat) : Int), .string (strB r)] 82 (0, 0))) (hbase : base ≤ w2.heap.size) :
    ∃ g' c' w', (Builtin.append_ #[30, 30] 30 #[.slice (some ⟨g, 0, none⟩) l.length capn, .slice (some ⟨g2, 0, none⟩) 1 1]).run Try.prog w2 = .ok (.slice (some ⟨g', 0, none⟩) (l.length + 1) c') w' ∧
      w'.ownsRow base 82 2 (.slice (some ⟨g', 0, none⟩) (l.length + 1) c') (l.length + 1) (vputs (l ++ [(j, r)])) ∧ w2.grownBy w' (some g) := by
  obtain ⟨i0, hi, hz0, hz1, hz2⟩ := info_parts Try.infoPut
  have h2 := own_same h (w' := w2) (fun q hq => hb.block q (h.lt q hq).2)
  obtain ⟨g', c', w', hrun, hown', hgrow⟩ := run_append_mine (P := Try.prog) (w := w2) base 30 30 82 i0 _ 2 24 Try.underlying30 hi hz0 hz1 hz2 rfl (by decide)
    g capn l.length (vputs l) h2 (some ⟨g2, 0, none⟩) 1 1 [.int .i64 ((j : Nat) : Int), .string (strB r)] rfl (fun e => by cases e) (fun _ => ⟨_, rfl, fun t u ht => by rw [Addr.add_mid, hg.cell, List.getElem?_toArray, Nat.zero_add]; exact ht⟩) (fun u hu => by simp only [List.mem_cons, List.not_mem_nil, or_false] at hu; rcases hu with rfl | rfl <;> rfl) (by unfold maxLen; omega) (by omega) hbase
  rw [show vputs l ++ [.int .i64 ((j : Nat) : Int), .string (strB r)] = vputs (l ++ [(j, r)]) from (vputs_snoc l (j, r)).symm] at hown'
  exact ⟨g', c', w', hrun, hown', hgrow⟩
theorem Ek.change_added (d : Ek.Dk) (i : Nat) (r : List Nat) : Ek.change (Ek.added d (i : Int) r) = { Ek.change d with loose := d.loose ++ [(i, r)], used := d.used + 1 } := by
  unfold Ek.change Ek.added
  dsimp only
  split
  · rfl
  · split <;> rfl
/-- What the write leaves, however it was laid. -/
theorem ddk_added {w w' : World} {G : Nat → Prop} {a la : Option Addr} {d : Ek.Dk} (hc : DCells w' G a la (Ek.change d)) {base g c0 c' : Nat} (i : Nat) (r : List Nat) (ho : w'.ownsRow base 82 2 (.slice (some ⟨g, 0, none⟩) (d.loose.length + 1) c') (d.loose.length + 1) (vputs (d.loose ++ [(i, r)]))) (hb : w.heap.size ≤ base) (hk : Ek.Ok (Ek.change (Ek.added d (i : Int) r))) :
    DDk w' (fun q => G q ∨ w.heap.size ≤ q) (.agg #[.slice a d.n c0, .slice (some ⟨g, 0, none⟩) (d.loose.length + 1) c', .int .i64 (Ek.change d).left, .bool (Ek.change d).dark]) (Ek.change (Ek.added d (i : Int) r)) := by
  rw [Ek.change_added] at hk ⊢
  have hn : (Ek.change d).n = d.n := Ek.change_n d
  have hs : (Ek.change d).sure = d.sure := Ek.change_sure d
  have hg := ho.lt g rfl
  refine ⟨a, some ⟨g, 0, none⟩, c0, c', ?_, ⟨fun k hk2 => ?_, fun k j q hq => ?_⟩, (fun e => by cases e), hk⟩
  · unfold dv
    simp only [List.length_append, List.length_singleton, hn]
  · obtain ⟨g1, off, e, h1, h2, h3⟩ := hc.1 k hk2
    exact ⟨g1, off, e, Or.inl h1, h2, h3⟩
  · have hq : (d.loose ++ [(i, r)])[k]? = some (j, q) := hq
    obtain ⟨v1, v2⟩ := vputs_at hq
    have hkl := (List.getElem?_eq_some_iff.1 hq).1
    rw [List.length_append, List.length_singleton] at hkl
    refine ⟨g, 0, rfl, Or.inr (Nat.le_trans hb hg.1), hg.2, ?_, ?_⟩
    · rw [Nat.zero_add, ho.cellAt (k * 2) (by omega)]; exact v1
    · rw [Nat.zero_add, ho.cellAt (k * 2 + 1) (by omega)]; exact v2

theorem DDk.mono {w : World} {G G' : Nat → Prop} {v : Value} {d : Ek.Dk} (h : DDk w G v d) (hg : ∀ q, G q → G' q) : DDk w G' v d := by
  obtain ⟨a, la, c, lc, e, hc, hnl, ho⟩ := h
  refine ⟨a, la, c, lc, e, ⟨fun i hi => ?_, fun k j r hr => ?_⟩, hnl, ho⟩
  · obtain ⟨g, off, e, h1, h2⟩ := hc.1 i hi; exact ⟨g, off, e, hg g h1, h2⟩
  · obtain ⟨g, off, e, h1, h2⟩ := hc.2 k j r hr; exact ⟨g, off, e, hg g h1, h2⟩
theorem DDk.lo {w : World} {G : Nat → Prop} {v : Value} {d : Ek.Dk} (h : DDk w G v d) : DDk w (fun q => G q ∧ q < w.heap.size) v d := by
  obtain ⟨a, la, c, lc, e, hc, hnl, ho⟩ := h
  refine ⟨a, la, c, lc, e, ⟨fun i hi => ?_, fun k j r hr => ?_⟩, hnl, ho⟩
  · obtain ⟨g, off, e, h1, h2, h3⟩ := hc.1 i hi; exact ⟨g, off, e, ⟨h1, h2⟩, h2, h3⟩
  · obtain ⟨g, off, e, h1, h2, h3⟩ := hc.2 k j r hr; exact ⟨g, off, e, ⟨h1, h2⟩, h2, h3⟩

set_option maxRecDepth 100000 in
set_option maxHeartbeats 4000000 in
theorem rdisk_write_good (w : World) (G : Nat → Prop) (v : Value) (d : Ek.Dk) (h : DDk w G v d) (i : Nat) (hi : i < d.n) (r : List Nat) (hr : Row r) (hd : d.dark = false) (hu : d.used < 1000000) :
    Calls Try.prog 24 #[v, .int .i64 (i : Int), .string (strB r)] w fun e w' => (∃ v', e = .returned (.tuple #[v', .int .i64 (if d.left = 0 then 6 else 0)]) ∧ DDk w' (fun q => G q ∨ w.heap.size ≤ q) v' (Ek.change (Ek.added d (i : Int) r))) ∧ Below w.heap.size w w' := by
  have HS : Hid (∀ w', Below w.heap.size w w' → Calls Try.prog 47 #[v] w' fun e w'' => (∃ v', e = .returned (.tuple #[v', .bool (decide (d.left ≠ 0))]) ∧ DDk w'' (fun q => G q ∧ q < w.heap.size) v' (Ek.change d)) ∧ Below w'.heap.size w' w'') := fun w' hb => rdisk_spend w' _ v d (h.lo.later hb) hd
  obtain ⟨a, la, c, lc, rfl, hc, hnl, hok⟩ := h
  have HK : Hid (Ek.Ok (Ek.change (Ek.added d (i : Int) r))) := Ek.change_ok (Ek.added_ok hok _ _ (by unfold Ek.Bad; have := hr.1; omega) hr.2 hu)
  have HC := Lib.hid hc
  have HNL := Lib.hid hnl
  have HLL : Hid (d.loose.length ≤ 1000000) := by have := hok.used; have := hok.count; show _ ≤ _; omega
  have HCN : Hid ((Ek.change d).n = d.n ∧ (Ek.change d).loose.length = d.loose.length) := ⟨Ek.change_n d, by rw [Ek.change_loose d]⟩
  unfold dv at HS ⊢
  rw [hd] at HS ⊢
  have c1 : decide ((i : Int) < 0) = false := decide_eq_false (by omega)
  have c2 : decide ((d.n : Int) ≤ (i : Int)) = false := decide_eq_false (by omega)
  have hS : (((strB r).size : Nat) : Int) = 512 := by rw [strB_size, hr.1]; rfl
  have c4 : ((((strB r).size : Nat) : Int) != 512) = false := by rw [hS]; rfl
  obtain ⟨S, hSe⟩ : ∃ S, S = strB r := ⟨_, rfl⟩
  rw [← hSe] at c4 ⊢
  have HSE := Lib.hid hSe
  obtain ⟨L, hL⟩ : ∃ L, L = d.loose.length := ⟨_, rfl⟩
  have HL := Lib.hid hL
  rw [← hL] at HS ⊢
  obtain ⟨N, hN⟩ : ∃ N, N = d.n := ⟨_, rfl⟩
  have HN := Lib.hid hN
  rw [← hN] at HS c2 ⊢
  obtain ⟨I, hI⟩ : ∃ I, I = (i : Int) := ⟨_, rfl⟩
  have HI := Lib.hid hI
  rw [← hI] at c1 c2 ⊢
  clear hI hN hc hnl hok hd hS hr hu hi hSe hL
  by_cases hz : d.left = 0
  · rw [if_pos hz]
    have e0 : decide (d.left ≠ 0) = false := by simp [hz]
    rw [e0] at HS
    generalize d.left = F at HS ⊢
    clear hz e0
    go_enter Try.func24, Try.ntmps24
    go_wp2_with fail
    have hA0 := (Has.new w (.cells #[.slice a N c, .slice la L lc, .int .i64 F, .bool false] 32)).later (below1 _ (.cells #[.slice none 0 0, .slice none 0 0, .int .i64 0, .bool false] 32))
    have hZ0 := Has.new (w.alloc (.cells #[.slice a N c, .slice la L lc, .int .i64 F, .bool false] 32)) (.cells #[.slice none 0 0, .slice none 0 0, .int .i64 0, .bool false] 32)
    have hB0 : Below w.heap.size w ((w.alloc (.cells #[.slice a N c, .slice la L lc, .int .i64 F, .bool false] 32)).alloc (.cells #[.slice none 0 0, .slice none 0 0, .int .i64 0, .bool false] 32)) := (below1 w _).trans ((below1 _ _).mono (by simp))
    have hs0 : (w.alloc (.cells #[.slice a N c, .slice la L lc, .int .i64 F, .bool false] 32)).heap.size = w.heap.size + 1 := by simp
    rw [hs0] at hZ0
    refine (HS.out _ hB0).mono ?_
    rintro e w2 ⟨⟨v2, rfl, hd2⟩, hb2⟩
    obtain ⟨a2, la2, k2, lc2, rfl, hc2, -, -⟩ := hd2
    unfold dv
    rw [HCN.out.1, HCN.out.2, ← HL.out, ← HN.out]
    obtain ⟨F2, hF2⟩ : ∃ x, x = (Ek.change d).left := ⟨_, rfl⟩
    obtain ⟨D2, hD2⟩ : ∃ x, x = (Ek.change d).dark := ⟨_, rfl⟩
    rw [← hF2, ← hD2]
    have hs2 : w.heap.size + 2 ≤ w2.heap.size := by have := hb2.size; simpa using this
    have hB2 := hB0.trans (hb2.mono hB0.size)
    obtain ⟨w3, hw3⟩ : ∃ x, x = w2.alloc (.cells #[.slice a2 N k2, .slice la2 L lc2, .int .i64 F2, .bool D2] 32) := ⟨_, rfl⟩
    have hb3 : Below w2.heap.size w2 w3 := by rw [hw3]; exact below1 w2 _
    have hs3 : w3.heap.size = w2.heap.size + 1 := by rw [hw3]; simp
    have hA3 := (hA0.later hb2).later hb3
    have hZ3 := (hZ0.later hb2).later hb3
    have hX3 : Has w3 w2.heap.size (.cells #[.slice a2 N k2, .slice la2 L lc2, .int .i64 F2, .bool D2] 32) := by rw [hw3]; exact Has.new w2 _
    have hB3 := hB2.trans (hb3.mono hB2.size)
    have hc3 := HC.out.keep hB3.size (fun g _ hl => hB3.block g hl)
    obtain ⟨g1, n1, w4, hrun1, ho1, hb4⟩ := puts_run w3 la lc d.loose HLL.out HNL.out (fun k j r h => by obtain ⟨g, off, e, _, _, y1, y2⟩ := hc3.2 k j r h; exact ⟨g, off, e, y1, y2⟩)
    have hput : Has (w4.alloc (.cells #[.int .i64 I, .string S] 82)) w4.heap.size (.cells #[.int .i64 ((i : Nat) : Int), .string (strB r)] 82) := by rw [← HI.out, ← HSE.out]; exact Has.new w4 _
    obtain ⟨g2, n2, w5, hrun2, ho2, hg5⟩ := puts_more ho1 (below1 w4 (.cells #[.int .i64 I, .string S] 82)) i r HLL.out w4.heap.size hput (by have := hb4.size; simp; omega)
    rw [← HL.out] at hrun1 hrun2
    have hg1 := (ho1.lt g1 rfl).1
    have hg2 := (ho2.lt g2 rfl).1
    have hB5 : Below w3.heap.size w3 w5 := (hb4.trans ((below1 w4 _).mono hb4.size)).grown hg5 (by have := hb4.size; simp; omega) (fun k e => by cases e; exact hg1)
    have hZ5 := hZ3.later hB5
    have hX5 := hX3.later hB5
    have hBw5 := hB3.trans (hB5.mono hB3.size)
    have HQ : Hid (∀ w7, Below w.heap.size w5 w7 → w7.heap[g2]? = w5.heap[g2]? → DDk w7 (fun q => G q ∨ w.heap.size ≤ q) (.agg #[.slice a2 N k2, .slice (some ⟨g2, 0, none⟩) (L + 1) n2, .int .i64 F2, .bool D2]) (Ek.change (Ek.added d I r)) ∧ Below w.heap.size w w7) := fun w7 hb7 hk7 => by
      have hBw7 := hBw5.trans hb7
      have hsz : w2.heap.size ≤ w7.heap.size := by have := hb7.size; have := hB5.size; omega
      have hc7 := hc2.keep hsz (fun q hq _ => (hBw7.block q hq.2).trans (hB2.block q hq.2).symm)
      have := ddk_added (w := w) (c0 := k2) hc7 i r (own_same ho2 (w' := w7) (fun q hq => by cases hq; exact hk7)) (by omega) HK.out
      rw [← HL.out, ← HN.out, ← hF2, ← hD2, ← HI.out] at this
      exact ⟨this.mono (fun q hq => hq.elim (fun x => Or.inl x.1) Or.inr), hBw7⟩
    rw [hs3] at hrun1
    have HR1 := Lib.hid hrun1
    have HR2 := Lib.hid hrun2
    have x1 : (w3.alloc (.cells #[] 82)).cell? ⟨w.heap.size, 1, none⟩ = some (.slice la L lc) := (hA3.later (below1 w3 _)).cell 1
    have HA3 := Lib.hid hA3
    have y0 : w5.cell? ⟨w2.heap.size, 0, none⟩ = some (.slice a2 N k2) := hX5.cell 0
    have y1 : w5.cell? ⟨w2.heap.size, 1, none⟩ = some (.slice la2 L lc2) := hX5.cell 1
    have y2 : w5.cell? ⟨w2.heap.size, 2, none⟩ = some (.int .i64 F2) := hX5.cell 2
    have y3 : w5.cell? ⟨w2.heap.size, 3, none⟩ = some (.bool D2) := hX5.cell 3
    have yf := hX5.free 1
    have z0 : w5.cell? ⟨w.heap.size + 1, 0, none⟩ = some (.slice none 0 0) := hZ5.cell 0
    have z1 : w5.cell? ⟨w.heap.size + 1, 1, none⟩ = some (.slice none 0 0) := hZ5.cell 1
    have z2 : w5.cell? ⟨w.heap.size + 1, 2, none⟩ = some (.int .i64 0) := hZ5.cell 2
    have z3 : w5.cell? ⟨w.heap.size + 1, 3, none⟩ = some (.bool false) := hZ5.cell 3
    have f0 := hZ5.free 0
    have f1 := hZ5.free 1
    have f2 := hZ5.free 2
    have f3 := hZ5.free 3
    have HG2 : Hid (w2.heap.size < g2 ∧ w.heap.size + 2 ≤ w2.heap.size) := ⟨by omega, hs2⟩
    have ne1 : (w2.heap.size == w.heap.size + 1) = false := by simp; omega
    have ne2 : (w.heap.size + 1 == w2.heap.size) = false := by simp; omega
    have hZ6 := hZ5.set (a := ⟨w2.heap.size, 1, none⟩) (by show w.heap.size + 1 ≠ w2.heap.size; omega) (.slice (some ⟨g2, 0, none⟩) (L + 1) n2)
    have hZ7 := hZ6.setSelf (i := 0) (.slice a2 N k2)
    have hZ8 := hZ7.setSelf (i := 1) (.slice (some ⟨g2, 0, none⟩) (L + 1) n2)
    have hZ9 := hZ8.setSelf (i := 2) (.int .i64 F2)
    have t1 := (hZ7.cell 1).trans (show _ = some (Value.slice none 0 0) from rfl)
    have t2 := (hZ8.cell 2).trans (show _ = some (Value.int .i64 0) from rfl)
    have t3 := (hZ9.cell 3).trans (show _ = some (Value.bool false) from rfl)
    have b1 := hZ7.free 1
    have b2 := hZ8.free 2
    have b3 := hZ9.free 3
    have t0 := hZ6.cell 0
    have b0 := hZ6.free 0
    rw [hw3] at x1
    rw [hw3] at HR1
    have HZT := Lib.hid (hZ9.setSelf (i := 3) (.bool D2))
    clear hZ6 hZ7 hZ8 hZ9
    clear hw3 hs3 hs2
    clear hA0 hZ0 hB0 hs0 hb2 hc2 hB2 hb3 hA3 hZ3 hX3 hB3 hc3 hrun1 ho1 hb4 hput hrun2 ho2 hg5 hg1 hg2 hB5 hZ5 hX5 hBw5 HS HK HC HNL HLL hF2 hD2
    go_wp2_with (at_builtin; first | refine wpList_run rfl (exec_append (.tmp 33) (.tmp 35) 30 rfl (.slice (some ⟨w2.heap.size + 1, 0, none⟩) 0 0) (.slice la L lc) (.slice (some ⟨g1, 0, none⟩) L n1) rfl rfl HR1.out) ?_ | refine wpList_run rfl (exec_append (.tmp 36) (.tmp 40) 30 rfl (.slice (some ⟨g1, 0, none⟩) L n1) (.slice (some ⟨w4.heap.size, 0, none⟩) 1 1) (.slice (some ⟨g2, 0, none⟩) (L + 1) n2) rfl rfl HR2.out) ?_)
    have r0 := (HZT.out.cell 0).trans (show _ = some (Value.slice a2 N k2) from rfl)
    have r1 := (HZT.out.cell 1).trans (show _ = some (Value.slice (some ⟨g2, 0, none⟩) (L + 1) n2) from rfl)
    have r2 := (HZT.out.cell 2).trans (show _ = some (Value.int .i64 F2) from rfl)
    have r3 := (HZT.out.cell 3).trans (show _ = some (Value.bool D2) from rfl)
    have hsz := HG2.out
    refine bodyPost_ret (v := .tuple #[.agg #[.slice a2 N k2, .slice (some ⟨g2, 0, none⟩) (L + 1) n2, .int .i64 F2, .bool D2], .int .i64 6]) ?_ rfl ?_
    · clear hsz
      rw [results_cell_tmp rfl]
      go_simp
    · have hq := HQ.out _ (((((((Below.refl w.heap.size w5).setCell (p := ⟨w2.heap.size, 1, none⟩) (by show w.heap.size ≤ w2.heap.size; omega) (.slice (some ⟨g2, 0, none⟩) (L + 1) n2)).setCell (p := ⟨w.heap.size + 1, 0, none⟩) (by show w.heap.size ≤ w.heap.size + 1; omega) (.slice a2 N k2)).setCell (p := ⟨w.heap.size + 1, 1, none⟩) (by show w.heap.size ≤ w.heap.size + 1; omega) (.slice (some ⟨g2, 0, none⟩) (L + 1) n2)).setCell (p := ⟨w.heap.size + 1, 2, none⟩) (by show w.heap.size ≤ w.heap.size + 1; omega) (.int .i64 F2)).setCell (p := ⟨w.heap.size + 1, 3, none⟩) (by show w.heap.size ≤ w.heap.size + 1; omega) (.bool D2))) (by
        rw [Below.heap_setCell _ _ _ _ (by show g2 ≠ w.heap.size + 1; omega), Below.heap_setCell _ _ _ _ (by show g2 ≠ w.heap.size + 1; omega), Below.heap_setCell _ _ _ _ (by show g2 ≠ w.heap.size + 1; omega), Below.heap_setCell _ _ _ _ (by show g2 ≠ w.heap.size + 1; omega), Below.heap_setCell _ _ _ _ (by show g2 ≠ w2.heap.size; omega)])
      exact ⟨⟨_, rfl, hq.1⟩, hq.2⟩
  · rw [if_neg hz]
    have e0 : decide (d.left ≠ 0) = true := by simp [hz]
    rw [e0] at HS
    generalize d.left = F at HS ⊢
    clear hz e0
    go_enter Try.func24, Try.ntmps24
    go_wp2_with fail
    have hA0 := (Has.new w (.cells #[.slice a N c, .slice la L lc, .int .i64 F, .bool false] 32)).later (below1 _ (.cells #[.slice none 0 0, .slice none 0 0, .int .i64 0, .bool false] 32))
    have hZ0 := Has.new (w.alloc (.cells #[.slice a N c, .slice la L lc, .int .i64 F, .bool false] 32)) (.cells #[.slice none 0 0, .slice none 0 0, .int .i64 0, .bool false] 32)
    have hB0 : Below w.heap.size w ((w.alloc (.cells #[.slice a N c, .slice la L lc, .int .i64 F, .bool false] 32)).alloc (.cells #[.slice none 0 0, .slice none 0 0, .int .i64 0, .bool false] 32)) := (below1 w _).trans ((below1 _ _).mono (by simp))
    have hs0 : (w.alloc (.cells #[.slice a N c, .slice la L lc, .int .i64 F, .bool false] 32)).heap.size = w.heap.size + 1 := by simp
    rw [hs0] at hZ0
    refine (HS.out _ hB0).mono ?_
    rintro e w2 ⟨⟨v2, rfl, hd2⟩, hb2⟩
    obtain ⟨a2, la2, k2, lc2, rfl, hc2, -, -⟩ := hd2
    unfold dv
    rw [HCN.out.1, HCN.out.2, ← HL.out, ← HN.out]
    obtain ⟨F2, hF2⟩ : ∃ x, x = (Ek.change d).left := ⟨_, rfl⟩
    obtain ⟨D2, hD2⟩ : ∃ x, x = (Ek.change d).dark := ⟨_, rfl⟩
    rw [← hF2, ← hD2]
    have hs2 : w.heap.size + 2 ≤ w2.heap.size := by have := hb2.size; simpa using this
    have hB2 := hB0.trans (hb2.mono hB0.size)
    obtain ⟨w3, hw3⟩ : ∃ x, x = w2.alloc (.cells #[.slice a2 N k2, .slice la2 L lc2, .int .i64 F2, .bool D2] 32) := ⟨_, rfl⟩
    have hb3 : Below w2.heap.size w2 w3 := by rw [hw3]; exact below1 w2 _
    have hs3 : w3.heap.size = w2.heap.size + 1 := by rw [hw3]; simp
    have hA3 := (hA0.later hb2).later hb3
    have hZ3 := (hZ0.later hb2).later hb3
    have hX3 : Has w3 w2.heap.size (.cells #[.slice a2 N k2, .slice la2 L lc2, .int .i64 F2, .bool D2] 32) := by rw [hw3]; exact Has.new w2 _
    have hB3 := hB2.trans (hb3.mono hB2.size)
    have hc3 := HC.out.keep hB3.size (fun g _ hl => hB3.block g hl)
    obtain ⟨g1, n1, w4, hrun1, ho1, hb4⟩ := puts_run w3 la lc d.loose HLL.out HNL.out (fun k j r h => by obtain ⟨g, off, e, _, _, y1, y2⟩ := hc3.2 k j r h; exact ⟨g, off, e, y1, y2⟩)
    have hput : Has (w4.alloc (.cells #[.int .i64 I, .string S] 82)) w4.heap.size (.cells #[.int .i64 ((i : Nat) : Int), .string (strB r)] 82) := by rw [← HI.out, ← HSE.out]; exact Has.new w4 _
    obtain ⟨g2, n2, w5, hrun2, ho2, hg5⟩ := puts_more ho1 (below1 w4 (.cells #[.int .i64 I, .string S] 82)) i r HLL.out w4.heap.size hput (by have := hb4.size; simp; omega)
    rw [← HL.out] at hrun1 hrun2
    have hg1 := (ho1.lt g1 rfl).1
    have hg2 := (ho2.lt g2 rfl).1
    have hB5 : Below w3.heap.size w3 w5 := (hb4.trans ((below1 w4 _).mono hb4.size)).grown hg5 (by have := hb4.size; simp; omega) (fun k e => by cases e; exact hg1)
    have hZ5 := hZ3.later hB5
    have hX5 := hX3.later hB5
    have hBw5 := hB3.trans (hB5.mono hB3.size)
    have HQ : Hid (∀ w7, Below w.heap.size w5 w7 → w7.heap[g2]? = w5.heap[g2]? → DDk w7 (fun q => G q ∨ w.heap.size ≤ q) (.agg #[.slice a2 N k2, .slice (some ⟨g2, 0, none⟩) (L + 1) n2, .int .i64 F2, .bool D2]) (Ek.change (Ek.added d I r)) ∧ Below w.heap.size w w7) := fun w7 hb7 hk7 => by
      have hBw7 := hBw5.trans hb7
      have hsz : w2.heap.size ≤ w7.heap.size := by have := hb7.size; have := hB5.size; omega
      have hc7 := hc2.keep hsz (fun q hq _ => (hBw7.block q hq.2).trans (hB2.block q hq.2).symm)
      have := ddk_added (w := w) (c0 := k2) hc7 i r (own_same ho2 (w' := w7) (fun q hq => by cases hq; exact hk7)) (by omega) HK.out
      rw [← HL.out, ← HN.out, ← hF2, ← hD2, ← HI.out] at this
      exact ⟨this.mono (fun q hq => hq.elim (fun x => Or.inl x.1) Or.inr), hBw7⟩
    rw [hs3] at hrun1
    have HR1 := Lib.hid hrun1
    have HR2 := Lib.hid hrun2
    have x1 : (w3.alloc (.cells #[] 82)).cell? ⟨w.heap.size, 1, none⟩ = some (.slice la L lc) := (hA3.later (below1 w3 _)).cell 1
    have HA3 := Lib.hid hA3
    have y0 : w5.cell? ⟨w2.heap.size, 0, none⟩ = some (.slice a2 N k2) := hX5.cell 0
    have y1 : w5.cell? ⟨w2.heap.size, 1, none⟩ = some (.slice la2 L lc2) := hX5.cell 1
    have y2 : w5.cell? ⟨w2.heap.size, 2, none⟩ = some (.int .i64 F2) := hX5.cell 2
    have y3 : w5.cell? ⟨w2.heap.size, 3, none⟩ = some (.bool D2) := hX5.cell 3
    have yf := hX5.free 1
    have z0 : w5.cell? ⟨w.heap.size + 1, 0, none⟩ = some (.slice none 0 0) := hZ5.cell 0
    have z1 : w5.cell? ⟨w.heap.size + 1, 1, none⟩ = some (.slice none 0 0) := hZ5.cell 1
    have z2 : w5.cell? ⟨w.heap.size + 1, 2, none⟩ = some (.int .i64 0) := hZ5.cell 2
    have z3 : w5.cell? ⟨w.heap.size + 1, 3, none⟩ = some (.bool false) := hZ5.cell 3
    have f0 := hZ5.free 0
    have f1 := hZ5.free 1
    have f2 := hZ5.free 2
    have f3 := hZ5.free 3
    have HG2 : Hid (w2.heap.size < g2 ∧ w.heap.size + 2 ≤ w2.heap.size) := ⟨by omega, hs2⟩
    have ne1 : (w2.heap.size == w.heap.size + 1) = false := by simp; omega
    have ne2 : (w.heap.size + 1 == w2.heap.size) = false := by simp; omega
    have hZ6 := hZ5.set (a := ⟨w2.heap.size, 1, none⟩) (by show w.heap.size + 1 ≠ w2.heap.size; omega) (.slice (some ⟨g2, 0, none⟩) (L + 1) n2)
    have hZ7 := hZ6.setSelf (i := 0) (.slice a2 N k2)
    have hZ8 := hZ7.setSelf (i := 1) (.slice (some ⟨g2, 0, none⟩) (L + 1) n2)
    have hZ9 := hZ8.setSelf (i := 2) (.int .i64 F2)
    have t1 := (hZ7.cell 1).trans (show _ = some (Value.slice none 0 0) from rfl)
    have t2 := (hZ8.cell 2).trans (show _ = some (Value.int .i64 0) from rfl)
    have t3 := (hZ9.cell 3).trans (show _ = some (Value.bool false) from rfl)
    have b1 := hZ7.free 1
    have b2 := hZ8.free 2
    have b3 := hZ9.free 3
    have t0 := hZ6.cell 0
    have b0 := hZ6.free 0
    rw [hw3] at x1
    rw [hw3] at HR1
    have HZT := Lib.hid (hZ9.setSelf (i := 3) (.bool D2))
    clear hZ6 hZ7 hZ8 hZ9
    clear hw3 hs3 hs2
    clear hA0 hZ0 hB0 hs0 hb2 hc2 hB2 hb3 hA3 hZ3 hX3 hB3 hc3 hrun1 ho1 hb4 hput hrun2 ho2 hg5 hg1 hg2 hB5 hZ5 hX5 hBw5 HS HK HC HNL HLL hF2 hD2
    go_wp2_with (at_builtin; first | refine wpList_run rfl (exec_append (.tmp 33) (.tmp 35) 30 rfl (.slice (some ⟨w2.heap.size + 1, 0, none⟩) 0 0) (.slice la L lc) (.slice (some ⟨g1, 0, none⟩) L n1) rfl rfl HR1.out) ?_ | refine wpList_run rfl (exec_append (.tmp 36) (.tmp 40) 30 rfl (.slice (some ⟨g1, 0, none⟩) L n1) (.slice (some ⟨w4.heap.size, 0, none⟩) 1 1) (.slice (some ⟨g2, 0, none⟩) (L + 1) n2) rfl rfl HR2.out) ?_)
    have r0 := (HZT.out.cell 0).trans (show _ = some (Value.slice a2 N k2) from rfl)
    have r1 := (HZT.out.cell 1).trans (show _ = some (Value.slice (some ⟨g2, 0, none⟩) (L + 1) n2) from rfl)
    have r2 := (HZT.out.cell 2).trans (show _ = some (Value.int .i64 F2) from rfl)
    have r3 := (HZT.out.cell 3).trans (show _ = some (Value.bool D2) from rfl)
    have hsz := HG2.out
    refine bodyPost_ret (v := .tuple #[.agg #[.slice a2 N k2, .slice (some ⟨g2, 0, none⟩) (L + 1) n2, .int .i64 F2, .bool D2], .int .i64 0]) ?_ rfl ?_
    · clear hsz
      rw [results_cell_tmp rfl]
      go_simp
    · have hq := HQ.out _ (((((((Below.refl w.heap.size w5).setCell (p := ⟨w2.heap.size, 1, none⟩) (by show w.heap.size ≤ w2.heap.size; omega) (.slice (some ⟨g2, 0, none⟩) (L + 1) n2)).setCell (p := ⟨w.heap.size + 1, 0, none⟩) (by show w.heap.size ≤ w.heap.size + 1; omega) (.slice a2 N k2)).setCell (p := ⟨w.heap.size + 1, 1, none⟩) (by show w.heap.size ≤ w.heap.size + 1; omega) (.slice (some ⟨g2, 0, none⟩) (L + 1) n2)).setCell (p := ⟨w.heap.size + 1, 2, none⟩) (by show w.heap.size ≤ w.heap.size + 1; omega) (.int .i64 F2)).setCell (p := ⟨w.heap.size + 1, 3, none⟩) (by show w.heap.size ≤ w.heap.size + 1; omega) (.bool D2))) (by
        rw [Below.heap_setCell _ _ _ _ (by show g2 ≠ w.heap.size + 1; omega), Below.heap_setCell _ _ _ _ (by show g2 ≠ w.heap.size + 1; omega), Below.heap_setCell _ _ _ _ (by show g2 ≠ w.heap.size + 1; omega), Below.heap_setCell _ _ _ _ (by show g2 ≠ w.heap.size + 1; omega), Below.heap_setCell _ _ _ _ (by show g2 ≠ w2.heap.size; omega)])
      exact ⟨⟨_, rfl, hq.1⟩, hq.2⟩
end Go.Proofs.Ythbiibinmofmfaa
