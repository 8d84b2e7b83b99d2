/- path.cutter, the closure that it hands back, path.pieces and its iterator. -/
import Derived.Test.YtghoajhfndnafaaPcut
import Derived.Test.YtghoajhfndnafaaPrange

namespace Go.Proofs.Ytghoajhfndnafaa
set_option maxRecDepth 100000
open Go.RowKit Go.Shelf

attribute [local go_sem] Oper.semAt_some

/-- A cutter's two boxes: the rest, and whether there is more. -/
def Cu (w : World) (b : Nat) (s : Tx) (m : Bool) : Prop := Has w b (.cells #[.string (bx s)] 9 (0, 0)) ∧ Has w (b + 1) (.cells #[.bool m] 4 (0, 0))

theorem bx_toList (s : Tx) : (bx s).toList = s := by
  rw [ByteArray.toList_eq]
  rfl

set_option maxHeartbeats 2000000 in
theorem cutter_any (s : Tx) (w : World) :
    Calls Try.prog 37 #[.string (bx s)] w fun e w' => e = .returned (.func (.func 46) #[] #[.pointer (some ⟨w.heap.size + 1, 0, none⟩), .pointer (some ⟨w.heap.size, 0, none⟩)]) ∧ Cu w' w.heap.size s (!s.isEmpty) ∧ Below w.heap.size w w' ∧ w'.heap.size = w.heap.size + 2 := by
  have hne := bx_toList s
  obtain ⟨S, hS⟩ : ∃ S, S = bx s := ⟨_, rfl⟩
  unfold Cu
  rw [← hS] at hne ⊢
  clear hS
  go_enter Try.func37, Try.ntmps37
  go_wp2_with fail
  go_ret
  refine ⟨rfl, ⟨(Has.new w _).alloc _, ?_⟩, below2 w _ _, by simp⟩
  have := Has.new (w.alloc (.cells #[.string S] 9)) (.cells #[.bool (!s.isEmpty)] 4)
  rw [World.size_alloc] at this
  exact this

set_option maxHeartbeats 2000000 in
theorem cutter1_any (s : Tx) (m : Bool) (b : Nat) (w : World) (h : Cu w b s m) (hs : s.length ≤ 9223372036854775807) :
    Calls Try.prog 46 #[.pointer (some ⟨b + 1, 0, none⟩), .pointer (some ⟨b, 0, none⟩)] w fun e w' => e = .returned (.tuple #[.string (bx (Pn.cut s).1), .bool m]) ∧ Cu w' b (Pn.cut s).2.1 (Pn.cut s).2.2 ∧ Lo b 2 w w' ∧ w'.heap.size = w.heap.size := by
  have HC := fun w1 => Lib.hid (cut_any s w1 hs)
  obtain ⟨S, hS⟩ : ∃ S, bx s = S := ⟨_, rfl⟩
  obtain ⟨A, hA⟩ : ∃ A, bx (Pn.cut s).1 = A := ⟨_, rfl⟩
  obtain ⟨B, hB⟩ : ∃ B, bx (Pn.cut s).2.1 = B := ⟨_, rfl⟩
  obtain ⟨z, hz⟩ : ∃ z, (Pn.cut s).2.2 = z := ⟨_, rfl⟩
  unfold Cu at h ⊢
  rw [hS, hA, hB, hz] at HC
  rw [hA, hB, hz]
  rw [hS] at h
  obtain ⟨h1, h2⟩ := h
  have H1 := Lib.hid h1
  have H2 := Lib.hid h2
  have c1 := h1.one.1
  have f1 := h1.one.2
  have c2 := h2.one.1
  have f2 := h2.one.2
  clear hS hA hB hz hs h1 h2
  go_enter Try.func46, Try.ntmps46
  go_wp2_with (go_at_call 47; refine (HC _).out.mono ?_; rintro e w' ⟨rfl, n, rfl⟩)
  have hz : b ≠ b + 1 := by omega
  have g1 : Has (w.drewN n) b (.cells #[.string S] 9 (0, 0)) := H1.out
  have g2 : Has (w.drewN n) (b + 1) (.cells #[.bool m] 4 (0, 0)) := H2.out
  go_ret2
  refine ⟨rfl, ⟨(g1.setSelf _).set hz _, (g2.set (by show b + 1 ≠ b; omega) _).setSelf _⟩, ⟨rfl, rfl, rfl, ?_, fun k _ hk => ?_⟩, ?_⟩
  · simp
  · rw [Below.heap_setCell _ _ _ _ (by show k ≠ b + 1; omega), Below.heap_setCell _ _ _ _ (by show k ≠ b; omega)]
    rfl
  · simp

set_option maxHeartbeats 1000000 in
theorem pieces_in (n : Nat) (s : Tx) (w : World) :
    CallsIn Fence.wide n Try.prog 30 #[.string (bx s)] w fun e w' => e = .returned (.func (.func 41) #[] #[.pointer (some ⟨w.heap.size, 0, none⟩)]) ∧ w' = w.alloc (.cells #[.string (bx s)] 9) := by
  generalize bx s = S
  refine callsIn_of_wp Try.func30 rfl trivial ?_ rfl
  simp only [Try.ntmps30, List.size_toArray, List.length_cons, List.length_nil, Nat.reduceAdd, Nat.reduceSub, Array.replicate_succ, Array.replicate_zero, List.push_toArray, List.append_toArray, List.nil_append, List.cons_append]
  gi_wp2
  go_ret
  exact ⟨rfl, rfl⟩

/-- What is left to tell, given what the cutter told last. -/
def Left (s : Tx) (pre : List Tx) (p : Tx) (z : Bool) (rest : Tx) (m : Bool) : Prop :=
  (z = true ∧ Pn.names s = pre ++ p :: (if m then Pn.pieces rest else [])) ∨ (z = false ∧ Pn.names s = pre)

theorem left_first (s : Tx) : Left s [] (Pn.cut s).1 (!s.isEmpty) (Pn.cut s).2.1 (Pn.cut s).2.2 := by
  by_cases h : s = []
  · subst h; exact Or.inr ⟨rfl, rfl⟩
  · refine Or.inl ⟨by cases s <;> simp_all, ?_⟩
    unfold Pn.names
    rw [if_neg h, List.nil_append, Pn.pieces_by_cut s]
theorem left_next (s : Tx) (pre : List Tx) (p rest : Tx) (m : Bool) (h : Left s pre p true rest m) : Left s (pre ++ [p]) (Pn.cut rest).1 m (Pn.cut rest).2.1 (Pn.cut rest).2.2 := by
  rcases h with ⟨_, h⟩ | ⟨h, _⟩
  · cases m with
    | false => exact Or.inr ⟨rfl, by simpa using h⟩
    | true =>
      refine Or.inl ⟨rfl, ?_⟩
      rw [h, if_pos rfl, Pn.pieces_by_cut rest]
      simp
  · cases h

/-- How many rounds are left, as the world tells it. -/
def mz (b : Nat) (z : Value) (w : World) : Nat :=
  match z with
  | .bool true => 1 + (match w.cell? ⟨b + 1, 0, none⟩ with
    | some (.bool true) => 1 + (match w.cell? ⟨b, 0, none⟩ with
      | some (.string S) => S.size
      | _ => 0)
    | _ => 0)
  | _ => 0
theorem mz_of {w : World} {b : Nat} {rest : Tx} {m : Bool} (h : Cu w b rest m) (z : Bool) : mz b (.bool z) w = if z = true then 1 + (if m = true then 1 + rest.length else 0) else 0 := by
  unfold mz
  rw [h.1.one.1, h.2.one.1]
  cases z <;> cases m <;> simp [bx_size]
theorem mz_next {w w' : World} {b : Nat} {rest : Tx} {m : Bool} (h : Cu w b rest m) (h' : Cu w' b (Pn.cut rest).2.1 (Pn.cut rest).2.2) : mz b (.bool m) w' < mz b (.bool true) w := by
  rw [mz_of h, mz_of h', if_pos rfl]
  cases m with
  | false => simp
  | true =>
    rw [if_pos rfl, if_pos rfl]
    by_cases hc : (Pn.cut rest).2.2 = true
    · have := Pn.cut_lt rest hc
      rw [if_pos hc]; omega
    · rw [if_neg hc]; omega

theorem Cu.lo {w w' : World} {b : Nat} {s : Tx} {m : Bool} (h : Cu w b s m) (hk : ∀ k, b ≤ k → k < b + 2 → w'.heap[k]? = w.heap[k]?) : Cu w' b s m :=
  ⟨(hk b (by omega) (by omega)).trans h.1, (hk (b + 1) (by omega) (by omega)).trans h.2⟩

set_option maxRecDepth 100000 in
set_option maxHeartbeats 4000000 in
theorem pieces1_in (n : Nat) (hn : 3 ≤ n) (l Bs N : Nat) (s : Tx) (hs : s.length ≤ 9223372036854775807) (J : List Tx → World → Prop) (W : World) (hN : (Pn.names s).length ≤ N) (hBs : Has W Bs (.cells #[.string (bx s)] 9 (0, 0)))
    (hJ : ∀ s A B, J s A → Lo W.heap.size 2 A B → J s B)
    (hY : ∀ pre x W1, x ∈ Pn.names s → J pre W1 → pre.length < N → W.heap.size + 2 ≤ W1.heap.size → YieldAt Fence.wide (n - 1) Try.prog l #[.string (bx x)] W1 fun e W' =>
      e = .returned (.bool true) ∧ J (pre ++ [x]) W' ∧ W1.heap.size ≤ W'.heap.size ∧ ∀ k, W.heap.size ≤ k → k < W.heap.size + 2 → W'.heap[k]? = W1.heap[k]?) (h0 : J [] W) :
    CallsIn Fence.wide n Try.prog 41 #[.func (.yield l) #[] #[], .pointer (some ⟨Bs, 0, none⟩)] W fun e W' => (∃ v, e = .returned v) ∧ ∃ ys, ys = Pn.names s ∧ J ys W' := by
  have hcell := hBs.one.1
  have HL := Lib.hid (fun _ : Unit => hs)
  have HN := Lib.hid (fun _ : Unit => hN)
  have H0 := Lib.hid h0
  have HCU := fun w1 => Lib.hid (cutter_any s w1)
  have HC1 := fun s m b w1 h hl => Lib.hid (cutter1_any s m b w1 h hl)
  have HF := Lib.hid (left_first s)
  have HJ := Lib.hid hJ
  have HY := Lib.hid hY
  obtain ⟨S, hS⟩ : ∃ S, S = bx s := ⟨_, rfl⟩
  rw [← hS] at hcell HCU
  clear hN hs h0 hBs hS hJ hY
  have h1 : 1 ≤ n := by omega
  have h2 : 1 ≤ n - 1 := by omega
  have c1 : ∀ args w, (callFunc 46 args).run Try.prog w = .ok (.enter 46 args) w := enters_of Try.func46 (by kernel_rfl) rfl
  refine callsIn_of_wp Try.func41 rfl trivial ?_ rfl
  simp only [Try.ntmps41, List.size_toArray, List.length_cons, List.length_nil, Nat.reduceAdd, Nat.reduceSub, Array.replicate_succ, Array.replicate_zero, List.push_toArray, List.append_toArray, List.nil_append, List.cons_append]
  gi_wp2_with (refine ⟨trivial, ?_⟩; first | (gi_at_call 37; refine (callsIn_wide.2 (HCU _).out).mono ?_; rintro e w1 ⟨rfl, hcu, hb1, hz1⟩; have HCu1 := Lib.hid hcu; have HB1 := Lib.hid hb1; have HZ1 := Lib.hid hz1; clear hcu hb1 hz1) | (gi_at_call 46; refine (callsIn_wide.2 (HC1 s _ _ w1 HCu1.out (HL.out ())).out).mono ?_; rintro e w2 ⟨rfl, hcu2, hlo2, hz2⟩; have HCu2 := Lib.hid hcu2; have HLo2 := Lib.hid hlo2; have HZ2 := Lib.hid hz2; clear hcu2 hlo2 hz2))
  have hj2 : J [] w2 := HJ.out _ _ _ (HJ.out _ _ _ H0.out (Lo.of_below HB1.out)) HLo2.out
  have hs2 : W.heap.size + 2 ≤ w2.heap.size := by rw [HZ2.out, HZ1.out]; exact Nat.le_refl _
  have HJ2 := Lib.hid hj2
  have HS2 := Lib.hid hs2
  clear hj2 hs2
  generalize hzz : (!s.isEmpty) = zz at HF HCu1
  clear hzz
  gi_loopw [4, 5] (fun s4 s5 wr => ∃ (pre : List Tx) (p : Tx) (z : Bool) (rest : Tx) (m : Bool), s4 = .string (bx p) ∧ s5 = .bool z ∧ Hid (Cu wr W.heap.size rest m) ∧ Hid (Left s pre p z rest m) ∧ Hid (Unit → rest.length ≤ s.length) ∧ Hid (J pre wr) ∧ Hid (W.heap.size + 2 ≤ wr.heap.size))
    (fun _ s5 wr => mz W.heap.size s5 wr)
  case atStart => exact ⟨[], _, _, _, _, rfl, rfl, HCu2, HF, Lib.hid (fun _ => (Pn.cut_le s).2), HJ2, HS2⟩
  case round =>
    obtain ⟨pre, p, z, rest, m, rfl, rfl, KC, KL, KR, KJ, KS⟩ := hrel
    cases z with
    | true =>
      have hlen : pre.length < N := by
        have h3 := HN.out ()
        rcases KL.out with ⟨_, h4⟩ | ⟨h4, _⟩
        · rw [h4] at h3; simp at h3; omega
        · cases h4
      have hmem : p ∈ Pn.names s := by
        rcases KL.out with ⟨_, h4⟩ | ⟨h4, _⟩
        · rw [h4]; simp
        · cases h4
      obtain ⟨fn, tmps, assign, body, hy, hR⟩ := HY.out pre p wr hmem KJ.out hlen KS.out
      clear hmem
      have HM := Lib.hid KC.out
      gi_wp2
      refine hR.mono ?_
      rintro e W3 ⟨rfl, hJ3, hs3, hk3⟩
      have KC3 := Lib.hid (KC.out.lo hk3)
      have KJ3 := Lib.hid hJ3
      have KS3 := Lib.hid (Nat.le_trans KS.out hs3)
      clear hJ3 hs3 hk3 hlen hy
      gi_wp2_with (refine ⟨trivial, ?_⟩; gi_at_call 46; refine (callsIn_wide.2 (HC1 rest _ _ W3 KC3.out (Nat.le_trans (KR.out ()) (HL.out ()))).out).mono ?_; rintro e w4 ⟨rfl, hcu4, hlo4, hz4⟩; have KC4 := Lib.hid hcu4; have KLo4 := Lib.hid hlo4; have KZ4 := Lib.hid hz4; clear hcu4 hlo4 hz4)
      go_roundw
      case rel => exact ⟨pre ++ [p], _, _, _, _, rfl, rfl, KC4, Lib.hid (left_next s pre p rest m KL.out), Lib.hid (fun _ => Nat.le_trans (Pn.cut_le rest).2 (KR.out ())), Lib.hid (HJ.out _ _ _ KJ3.out KLo4.out), Lib.hid (by rw [KZ4.out]; exact KS3.out)⟩
      case measure => exact mz_next HM.out KC4.out
    | false =>
      gi_wp2
      go_end0
      refine ⟨⟨_, rfl⟩, pre, ?_, KJ.out⟩
      rcases KL.out with ⟨h4, _⟩ | ⟨_, h4⟩
      · cases h4
      · exact h4.symm
end Go.Proofs.Ytghoajhfndnafaa
