/- path.Clean. -/
import Derived.Test.YtghoajhfndnafaaPsplit
import Derived.Test.YtghoajhfndnafaaPjoin

namespace Go.Proofs.Ytghoajhfndnafaa
set_option maxRecDepth 100000
open Go.RowKit Go.Shelf

attribute [local go_sem] Oper.semAt_some

theorem step_len (st : List Tx) (p : Tx) : (Pn.step st p).length ≤ st.length + 1 := by
  unfold Pn.step
  split
  · omega
  · split
    · simp; omega
    · simp
theorem fold_len (l : List Tx) : ∀ st : List Tx, (l.foldl Pn.step st).length ≤ st.length + l.length := by
  induction l with
  | nil => intro st; simp
  | cons p ps ih =>
    intro st
    have h1 := ih (Pn.step st p)
    have h2 := step_len st p
    simp only [List.foldl_cons, List.length_cons]
    omega
theorem fold_snoc (l : List Tx) (p : Tx) : (l ++ [p]).foldl Pn.step [] = Pn.step (l.foldl Pn.step []) p := by simp

/-- A shorter list in the box. -/
theorem os_less {W : World} {nb base : Nat} {a : Option Addr} {cap : Nat} {l : List Tx} (hb : Has W nb (.cells #[.slice a l.length cap] 22 (0, 0))) (ho : Ot W base (.slice a l.length cap) l) (hn : nb < base) (k : Nat) (hk : k ≤ l.length) :
    More W (W.setCell ⟨nb, 0, none⟩ (.slice a k cap)) nb base (l.take k) := by
  have hl := lo_setCell W nb 0 (.slice a k cap)
  refine ⟨hl.size, ⟨_, hb.setSelf _, hl.os' (ho.drop k hk) (by omega)⟩, fun k _ hne => Below.heap_setCell _ _ _ _ hne, fun B w hB hw => hw.trans ⟨rfl, rfl, rfl, hl.size, fun k hk => Below.heap_setCell _ _ _ _ (by show k ≠ nb; omega)⟩⟩
theorem More.refl {W : World} {nb base : Nat} {v : Value} {l : List Tx} (hb : Has W nb (.cells #[v] 22 (0, 0))) (ho : Ot W base v l) : More W W nb base l :=
  ⟨Nat.le_refl _, ⟨v, hb, ho⟩, fun _ _ _ => rfl, fun _ _ _ h => h⟩

set_option maxRecDepth 100000 in
set_option maxHeartbeats 4000000 in
theorem clean_in (n : Nat) (hn : 5 ≤ n) (s : Tx) (w : World) (hs : s.length ≤ 1024) :
    CallsIn Fence.wide n Try.prog 21 #[.string (bx s)] w fun e w' => e = .returned (.tuple #[.string (bx (Pn.joined (Pn.stack s)).1), .int .i64 (ec (Pn.path (Pn.stack s)))]) ∧ Below w.heap.size w w' := by
  have h1 : 1 ≤ n := by omega
  have HP := fun w1 => Lib.hid (pieces_in (n - 1) s w1)
  have hz := bx_size s
  have q1 : ((1024 : Int) < (s.length : Int)) = False := by simp; omega
  obtain ⟨S, hS⟩ : ∃ S, S = bx s := ⟨_, rfl⟩
  have HS := Lib.hid hS
  obtain ⟨Z, hZ⟩ : ∃ Z, Z = bx (Pn.joined (Pn.stack s)).1 := ⟨_, rfl⟩
  have HZZ := Lib.hid hZ
  rw [← hS] at HP hz ⊢
  rw [← hZ]
  clear hS hZ
  refine callsIn_of_wp_marks Try.func21 rfl trivial ?_ rfl
  simp only [Try.ntmps21, List.size_toArray, List.length_cons, List.length_nil, Nat.reduceAdd, Nat.reduceSub, Array.replicate_succ, Array.replicate_zero, List.push_toArray, List.append_toArray, List.nil_append, List.cons_append]
  gi_wp2_with (refine ⟨trivial, ?_⟩; gi_at_call 30; refine (HP _).out.mono ?_; rintro e w' ⟨rfl, rfl⟩)
  obtain ⟨w1, hw1⟩ : ∃ w1, w1 = (w.alloc (.cells #[.slice none 0 0] 22)).alloc (.cells #[.string S] 9) := ⟨_, rfl⟩
  have hz1 : w1.heap.size = w.heap.size + 2 := by rw [hw1]; simp
  have bC : Has w1 w.heap.size (.cells #[.slice none 0 0] 22 (0, 0)) := by rw [hw1]; exact (Has.new w _).alloc _
  have bN : Has w1 (w.heap.size + 1) (.cells #[.string S] 9 (0, 0)) := by
    have := Has.new (w.alloc (.cells #[.slice none 0 0] 22)) (.cells #[.string S] 9)
    rw [World.size_alloc] at this
    rw [hw1]; exact this
  have hB1 : Below w.heap.size w w1 := by rw [hw1]; exact below2 w _ _
  rw [← hw1]
  clear hw1
  obtain ⟨sl, hsl⟩ : ∃ sl : Int, sl = (s.length : Int) := ⟨_, rfl⟩
  rw [← hsl]
  have hnm : ∀ x ∈ Pn.names s, x.length ≤ 1024 := by
    intro x hx
    unfold Pn.names at hx
    split at hx
    · simp at hx
    · exact Nat.le_trans (pieces_each s x hx) hs
  have hnl := names_len s
  have HSEQ := Lib.hid (pieces_made (n - 1) (by omega) (w.heap.size + 1) 1024 s (by omega) hnm w1 (by rw [← HS.out]; exact bN))
  have HNL : Hid ((Pn.names s).length ≤ 1100) := by show _ ≤ _; omega
  clear hnm hnl hsl
  refine range_made rfl h1 (gf := 41) (lb := #[.pointer (some ⟨w.heap.size + 1, 0, none⟩)]) rfl trivial (enters_of Try.func41 (by kernel_rfl) rfl) HSEQ.out (fun _ => rfl)
    (fun (pre : List (Tn 1024)) W => (∃ v, Has W w.heap.size (.cells #[v] 22 (0, 0)) ∧ Ot W (w1.heap.size + 4) v ((pre.map Subtype.val).foldl Pn.step [])) ∧ Below w.heap.size w W)
    (fun pre A B hs hlo => ⟨by obtain ⟨v, g1, g2⟩ := hs.1; exact ⟨v, hlo.has g1 (Or.inl (by omega)), hlo.own g2 (Nat.le_refl _)⟩, hlo.below hs.2 (by omega) hs.2.size⟩)
    ⟨⟨_, bC, Ot.nil _ _⟩, hB1⟩
    (fun x => { tmps := #[.string S, undef, .string ⟨#[]⟩, .int .i64 0, .pointer (some ⟨w.heap.size, 0, none⟩), .string (bx x.1), .string S, .int .i64 sl, .bool false, .string S, .func (.func 41) #[] #[.pointer (some ⟨w.heap.size + 1, 0, none⟩)], .string (bx x.1), undef, undef, undef, undef, undef, undef, undef, undef, undef, undef, undef, undef, undef, undef, undef, undef, undef, undef, undef, undef], defers := [] }) ?assign ?body ?done
  case assign =>
    intro l x W K hK
    generalize bx x.1 = X at hK ⊢
    gi_wp2
    exact hK
  case body =>
    rintro l pre x W ⟨⟨v, hv, ho⟩, hB⟩ hlt hsz
    have hpl : ((pre.map Subtype.val).foldl Pn.step []).length ≤ 1100 := by
      have := fold_len (pre.map Subtype.val) []
      have := HNL.out
      simp only [List.length_nil, List.length_map] at *
      omega
    have HE : Hid (∀ (a : Act) W3, More W W3 w.heap.size (w1.heap.size + 4) (Pn.step ((pre.map Subtype.val).foldl Pn.step []) x.1) → MadePost w1.heap.size (fun (pre : List (Tn 1024)) W => (∃ v, Has W w.heap.size (.cells #[v] 22 (0, 0)) ∧ Ot W (w1.heap.size + 4) v ((pre.map Subtype.val).foldl Pn.step [])) ∧ Below w.heap.size w W) (pre ++ [x]) W .normal a W3) := by
      rintro a W3 hm
      refine ⟨rfl, ⟨by rw [List.map_append, List.map_singleton, fold_snoc]; exact hm.row, hm.below _ _ (Nat.le_refl _) hB⟩, hm.size, fun k k1 k2 => hm.block k (by omega) (by omega)⟩
    generalize (pre.map Subtype.val).foldl Pn.step [] = q at HE hpl ho
    obtain ⟨a0, c0, rfl⟩ : ∃ a c, v = .slice a q.length c := by
      obtain ⟨a, c, e, _⟩ := ho.ss
      exact ⟨a, c, e⟩
    have hcc : q.length ≤ c0 := by
      obtain ⟨a, c, e, h, _⟩ := ho.ss
      cases e
      exact h
    have hc := hv.one.1
    have hcf := hv.one.2
    have hcl := hv.lt
    have HV := Lib.hid hv
    have HO := Lib.hid ho
    have HSZ := Lib.hid hsz
    have HPL := Lib.hid (fun _ : Unit => hpl)
    have HZ1 := Lib.hid hz1
    obtain ⟨xs, hxs⟩ := x
    dsimp only at HE ⊢
    have hl := bx_toList xs
    have HM := Lib.hid (os_more hv ho (by omega) hsz (by omega) W (Below.refl _ W) xs)
    obtain ⟨X, hX⟩ : ∃ X, X = bx xs := ⟨_, rfl⟩
    have HL := Lib.hid (fun k (hk : k ≤ q.length) => os_less hv ho (by omega) k hk)
    rw [← hX] at hl HM ⊢
    have HR := Lib.hid (More.refl hv ho)
    clear hX hv ho hlt HSEQ HP q1 bC bN hz hs hB hB1 hsz HS
    by_cases e1 : xs = []
    · have hst : Pn.step q xs = q := by rw [e1]; simp [Pn.step]
      rw [hst] at HE
      subst e1
      clear hst hpl HM HL
      gi_wp2
      exact HE.out { tmps := #[], defers := [] } _ HR.out
    by_cases e2 : xs = [46]
    · have hst : Pn.step q xs = q := by rw [e2]; simp [Pn.step]
      rw [hst] at HE
      subst e2
      clear hst hpl HM HL e1
      gi_wp2
      exact HE.out { tmps := #[], defers := [] } _ HR.out
    have g1 : xs.isEmpty = false := by cases xs <;> simp_all
    have g2 : (xs == [46]) = false := by simpa using e2
    by_cases e3 : xs = [46, 46]
    · have hst : Pn.step q xs = q.dropLast := by rw [e3]; simp [Pn.step]
      rw [hst, List.dropLast_eq_take] at HE
      subst e3
      clear hst HM e1 e2
      obtain ⟨m, hm⟩ : ∃ m, m = q.length := ⟨_, rfl⟩
      have HQ := HL.out (q.length - 1) (by omega)
      rw [← hm] at hc hcc hpl HQ HE
      by_cases h0 : m = 0
      · subst h0
        clear hpl hm
        gi_wp2
        exact HE.out { tmps := #[], defers := [] } _ HQ
      · have w0 : IntKind.i64.wrap ((m : Int) - 1) = ((m - 1 : Nat) : Int) := by rw [IntWalk.i64_in _ (by omega)]; omega
        have w2 : max ((m - 1 : Nat) : Int) 0 = ((m - 1 : Nat) : Int) := by omega
        have w3 : ((m - 1 : Nat) : Int) ≤ (c0 : Int) := by omega
        have w4 : (0 : Int) ≤ ((m - 1 : Nat) : Int) := by omega
        clear hpl hm
        generalize m - 1 = j at *
        gi_wp2
        exact HE.out { tmps := #[], defers := [] } _ HQ
    · have hst : Pn.step q xs = q ++ [xs] := by simp [Pn.step, e1, e2, e3]
      have g3 : (xs == [46, 46]) = false := by simpa using e3
      rw [hst] at HE
      clear hst hpl HL e1 e2 e3
      obtain ⟨g, c, w3, hrun, hc3, hf3, hfin⟩ := HM.out
      have hcW : (W.alloc (.cells #[.string X] 9)).cell? ⟨w.heap.size, 0, none⟩ = some (.slice a0 q.length c0) := ((below1 W _).cell (p := ⟨w.heap.size, 0, none⟩) hcl).trans hc
      gi_wp2_with (gi_at_builtin; refine wpListIn_append_known rfl (.tmp 13) (.tmp 15) 22 rfl _ _ _ w3 rfl rfl hrun ?_)
      exact HE.out { tmps := #[], defers := [] } _ hfin.out
  case done =>
    rintro D ys W hD hys ⟨⟨v, hv, ho⟩, hB⟩ hK
    have HD : Hid (D = w.heap.size + 2) := hD.trans hz1
    clear hD
    have hcl := hv.one.1
    rw [hys] at ho
    have hle : (Pn.stack s).length ≤ 1000000 := by
      have := fold_len (Pn.names s) []
      have := HNL.out
      simp only [List.length_nil, Pn.stack] at *
      omega
    have HV := Lib.hid hv
    have HBW := Lib.hid hB
    have HM := Lib.hid (join_any v (Pn.stack s) W ho.ss hle)
    rw [← HZZ.out] at HM
    clear hv ho hB hle HSEQ HP bC bN hB1 HS hs hz q1
    gi_wp2_with (refine ⟨trivial, ?_⟩; gi_at_call 19; refine (callsIn_wide.2 HM.out).mono ?_; rintro e w5 ⟨rfl, hb5⟩; have HB5 := Lib.hid hb5; have hK5 : w5.heap[D]? = some (.deferred (some [])) := (hb5.block D (Array.getElem?_eq_some_iff.1 hK).1).trans hK; clear hb5)
    refine ⟨by simp, .inl ⟨_, _, rfl, run_takeDeferred hK5, ?_⟩⟩
    exact ⟨_, results_tmp2 rfl _ _ _, rfl, HBW.out.trans ((HB5.out.mono HBW.out.size).trans (belowK_b (w := w) (Nat.le_refl _) w5 D _ _ (by rw [HD.out]; omega) hK5 rfl rfl))⟩

theorem clean_any (s : Tx) (w : World) :
    Calls Try.prog 21 #[.string (bx s)] w fun e w' => e = .returned (.tuple #[.string (bx (Pn.clean s).1), .int .i64 ((Pn.clean s).2 : Int)]) ∧ Below w.heap.size w w' := by
  by_cases hs : s.length ≤ 1024
  · have h := callsIn_wide.1 (clean_in 5 (Nat.le_refl _) s w hs)
    have e1 : Pn.clean s = Pn.joined (Pn.stack s) := by unfold Pn.clean; rw [if_neg (by omega)]
    have e2 : ((Pn.joined (Pn.stack s)).2 : Int) = ec (Pn.path (Pn.stack s)) := by
      unfold Pn.joined ec
      cases Pn.path (Pn.stack s) <;> rfl
    rw [e1, e2]
    exact h
  · have hz := bx_size s
    have e1 : Pn.clean s = ([], 3) := by unfold Pn.clean; rw [if_pos (by omega)]
    have q1 : ((1024 : Int) < (s.length : Int)) = True := by simp; omega
    rw [e1]
    generalize bx s = S at hz
    clear hs e1
    go_enter Try.func21, Try.ntmps21
    go_wp2_with fail
    go_ret2
    exact ⟨rfl, Below.refl _ _⟩
end Go.Proofs.Ytghoajhfndnafaa
