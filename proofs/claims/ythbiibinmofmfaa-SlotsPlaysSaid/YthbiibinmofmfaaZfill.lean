/- Contract of slots' fill: the steps that write bytes into a slot, a sector each. -/
import Derived.Test.YthbiibinmofmfaaZround

namespace Go.Proofs.Ythbiibinmofmfaa
set_option maxRecDepth 100000
open Go.RowKit Go.Shelf

attribute [local go_sem] Oper.semAt_some

theorem own_atZ {w : World} {base : Nat} {e : TypeId} {size : Nat} {v : Value} {n : Nat} {xs : List Value} (h : w.ownsRow base e size v n xs) (hn : 0 < n) : ∃ g cap, v = .slice (some ⟨g, 0, none⟩) n cap ∧ base ≤ g ∧ g < w.heap.size := by
  rcases h.2 with ⟨_, h0⟩ | ⟨g, cap, cur, hv, hb, hg, _⟩
  · omega
  · exact ⟨g, cap, hv, hb, (Array.getElem?_eq_some_iff.1 hg).1⟩
/-- Block k has cells. -/
def Cl (W : World) (k : Nat) : Prop := ∃ o, W.heap[k]? = some o ∧ o.isCells = true
theorem Cl.of_cell {W : World} {k o : Nat} {v : Value} (h : W.cell? ⟨k, o, none⟩ = some v) : Cl W k := by
  cases e : W.heap[k]? with
  | none => simp [World.cell?, e] at h
  | some x =>
    cases x with
    | cells cs t fr => exact ⟨_, e, rfl⟩
    | _ => simp [World.cell?, e] at h
theorem Cl.keep {W W' : World} {k : Nat} (h : Cl W k) (he : W'.heap[k]? = W.heap[k]?) : Cl W' k := by
  obtain ⟨o, h1, h2⟩ := h
  exact ⟨o, he.trans h1, h2⟩
theorem Cl.lt {W : World} {k : Nat} (h : Cl W k) : k < W.heap.size := by
  obtain ⟨o, h1, _⟩ := h
  exact (Array.getElem?_eq_some_iff.1 h1).1

/-- The steps that are laid of the pieces pre. -/
def Sk.laid (fr : Nat) (bs : List Nat) (pre : List Nat) : List Sk.Step := (List.range pre.length).map fun i => .put (fr + i) (Sk.padded (Sk.piece bs (pre[i]?.getD 0)))
theorem Sk.laid_length (fr : Nat) (bs : List Nat) (pre : List Nat) : (Sk.laid fr bs pre).length = pre.length := by simp [Sk.laid]
theorem Sk.laid_snoc (fr : Nat) (bs : List Nat) (pre : List Nat) (x : Nat) : Sk.laid fr bs (pre ++ [x]) = Sk.laid fr bs pre ++ [.put (fr + pre.length) (Sk.padded (Sk.piece bs x))] := by
  unfold Sk.laid
  rw [List.length_append, List.length_singleton, List.range_succ, List.map_append, List.map_cons, List.map_nil]
  congr 1
  · apply List.map_congr_left
    intro i hi
    have : i < pre.length := List.mem_range.1 hi
    rw [List.getElem?_append_left this]
  · rw [List.getElem?_append_right (Nat.le_refl _), Nat.sub_self]; rfl
theorem Sk.laid_fill (n slot : Nat) (bs : List Nat) (m : Nat) : Sk.laid (Sk.front n slot) bs (List.range m) = Sk.fillTo n slot bs m := by
  induction m with
  | zero => rfl
  | succ m ih =>
    rw [List.range_succ, Sk.laid_snoc, ih, List.length_range]; rfl

/-- What a step may read, beside the row of steps: the piece's block, and what was made since. -/
def FlE (w : World) (g : Nat) (T : Nat) (sv : Value) (W : World) (k : Nat) : Prop := (k = g ∨ w.heap.size ≤ k) ∧ k ≠ T ∧ sv.ownBlock ≠ some k ∧ Cl W k
/-- Between two rounds of fill's loop. T: the box of the row of steps; N: what the loop makes lies from there on; b: the disk. -/
def FlI (w : World) (b g T N slot fr : Nat) (bs : List Nat) (pre : List Nat) (W : World) : Prop :=
  ∃ (sv : Value) (vs : List Value), Has W T (.cells #[sv] 74 (0, 0)) ∧ W.ownsRow N 77 1 sv pre.length vs ∧ StsAt W (FlE w g T sv W) b vs (Sk.laid fr bs pre) ∧ Below w.heap.size w W ∧
    Has W w.heap.size (.cells #[.pointer (some ⟨b, 0, none⟩)] 25 (0, 0)) ∧ Has W (w.heap.size + 1) (.cells #[.int .i64 (slot : Int)] 3 (0, 0)) ∧ N ≤ W.heap.size
theorem flI_own {w : World} {b g T N slot fr : Nat} {bs : List Nat} {B : Nat} (hB : w.heap.size ≤ B) : OwnFrom B (FlI w b g T N slot fr bs) := by
  rintro pre W W' row ⟨sv, vs, h1, h2, h3, h4, h5, h6, h7⟩ hg hr
  have hne : ∀ k, Cl W k → some k ≠ row := fun k hk e => by
    obtain ⟨_, o, ho, hc⟩ := hr k e.symm
    obtain ⟨o', ho', hc'⟩ := hk
    rw [ho] at ho'
    cases ho'
    rw [hc] at hc'; cases hc'
  have hk : ∀ k, Cl W k → W'.heap[k]? = W.heap[k]? := fun k h => hg.block k h.lt (hne k h)
  refine ⟨sv, vs, h1.grown hg (hne T ⟨_, h1, rfl⟩), own_same h2 (fun q hq => ?_), (h3.keep (fun k h => hk k h.2.2.2)).mono (fun k h => ⟨h.1, h.2.1, h.2.2.1, h.2.2.2.keep (hk k h.2.2.2)⟩), h4.grown hg h4.size (fun q e => Nat.le_trans hB (hr q e).1), h5.grown hg (hne _ ⟨_, h5, rfl⟩), h6.grown hg (hne _ ⟨_, h6, rfl⟩), Nat.le_trans h7 hg.size⟩
  rcases h2.2 with ⟨rfl, _⟩ | ⟨g', c', cur, rfl, _, hb, _⟩
  · cases hq
  · cases hq; exact hk g' ⟨_, hb, rfl⟩
theorem Try.infoStep : (Try.prog.info? 77).map (fun i => (i.zero, i.size, i.bytes)) = some (some .nilFunc, 1, 8) := by kernel_rfl
theorem chV_sl {w : World} {g off len cap : Nat} {bs : List Nat} (h : Sl w (.slice (some ⟨g, off, none⟩) len cap) bs) (x : Nat) : Sl w (chV g off len x) (Sk.piece bs x) := by
  obtain ⟨a', len', cap', e, h1, h2, h3, h4, h5⟩ := h
  injection e with e1 e2 e3
  subst e1 e2 e3
  unfold chV Sk.piece
  refine ⟨_, _, _, rfl, by rw [List.length_take, List.length_drop, h1], by omega, fun q => (by cases q), fun y hy => h4 y (List.mem_of_mem_drop (List.mem_of_mem_take hy)), fun h0 => ?_⟩
  obtain ⟨b, o, q, hlt, hc⟩ := h5 (by omega)
  injection q with q; injection q with q1 q2; subst q1 q2
  refine ⟨g, off + 512 * x, rfl, hlt, fun i hi => ?_⟩
  rw [Nat.add_assoc, hc (512 * x + i) (by omega), List.getElem?_take_of_lt (by omega), List.getElem?_drop]

set_option maxRecDepth 100000 in
set_option maxHeartbeats 4000000 in
theorem fill_in (n : Nat) (hn : 4 ≤ n) (w : World) (S : Nat → Prop) (b : Nat) (d : Ek.Dk) (h : Dsk w S b d) (slot : Nat) (hs : slot ≤ 1) (g off len cap : Nat) (bs : List Nat) (hb : Sl w (.slice (some ⟨g, off, none⟩) len cap) bs) (hlc : len ≤ cap) (hl : len ≤ 1048576) (hpos : 0 < len) :
    CallsIn Fence.wide n Try.prog 32 #[.pointer (some ⟨b, 0, none⟩), .int .i64 (slot : Int), .slice (some ⟨g, off, none⟩) len cap] w fun e w' => ∃ sv, e = .returned sv ∧ StSl w' (fun k => (k = g ∨ w.heap.size ≤ k) ∧ k < w'.heap.size) b sv (Sk.fill d.n slot bs) ∧ Below w.heap.size w w' := by
  have h1 : 1 ≤ n := by omega
  have hok := h.ok
  refine callsIn_of_wp_marks Try.func32 rfl trivial ?_ rfl
  simp only [Try.ntmps32, List.size_toArray, List.length_cons, List.length_nil, Nat.reduceAdd, Nat.reduceSub, Array.replicate_succ, Array.replicate_zero, List.push_toArray, List.append_toArray, List.nil_append, List.cons_append]
  gi_wp2_with (refine ⟨trivial, ?_⟩; gi_at_call 55; refine (chunk_in (n - 1) _ _ _ _).mono ?_; rintro e w' ⟨rfl, rfl⟩)
  obtain ⟨w5, hw5⟩ : ∃ w5, w5 = (((((w.alloc (.cells #[.pointer (some ⟨b, 0, none⟩)] 25)).alloc (.cells #[.int .i64 (slot : Int)] 3)).alloc (.cells #[.slice none 0 0] 74)).alloc (.cells #[.slice (some ⟨g, off, none⟩) len cap] 35)).alloc (.cells #[.int .i64 512] 3)) := ⟨_, rfl⟩
  have hs5 : w5.heap.size = w.heap.size + 5 := by rw [hw5]; simp
  have hb5 : Below w.heap.size w w5 := by
    rw [hw5]
    exact (((below3 w _ _ _).alloc (by simp; omega) _).alloc (by simp; omega) _)
  have b0 : Has w5 w.heap.size (.cells #[.pointer (some ⟨b, 0, none⟩)] 25 (0, 0)) := by rw [hw5]; exact ((((Has.new w _).alloc _).alloc _).alloc _).alloc _
  have b1 : Has w5 (w.heap.size + 1) (.cells #[.int .i64 (slot : Int)] 3 (0, 0)) := by
    have := (((Has.new (w.alloc (.cells #[.pointer (some ⟨b, 0, none⟩)] 25)) (.cells #[.int .i64 (slot : Int)] 3)).alloc (.cells #[.slice none 0 0] 74)).alloc (.cells #[.slice (some ⟨g, off, none⟩) len cap] 35)).alloc (.cells #[.int .i64 512] 3)
    rw [hw5]; simpa using this
  have b2 : Has w5 (w.heap.size + 1 + 1) (.cells #[.slice none 0 0] 74 (0, 0)) := by
    have := ((Has.new ((w.alloc (.cells #[.pointer (some ⟨b, 0, none⟩)] 25)).alloc (.cells #[.int .i64 (slot : Int)] 3)) (.cells #[.slice none 0 0] 74)).alloc (.cells #[.slice (some ⟨g, off, none⟩) len cap] 35)).alloc (.cells #[.int .i64 512] 3)
    rw [hw5]; simpa using this
  have b3 : Has w5 (w.heap.size + 1 + 1 + 1) (.cells #[.slice (some ⟨g, off, none⟩) len cap] 35 (0, 0)) := by
    have := (Has.new (((w.alloc (.cells #[.pointer (some ⟨b, 0, none⟩)] 25)).alloc (.cells #[.int .i64 (slot : Int)] 3)).alloc (.cells #[.slice none 0 0] 74)) (.cells #[.slice (some ⟨g, off, none⟩) len cap] 35)).alloc (.cells #[.int .i64 512] 3)
    rw [hw5]; simpa using this
  have b4 : Has w5 (w.heap.size + 1 + 1 + 1 + 1) (.cells #[.int .i64 512] 3 (0, 0)) := by
    have := Has.new ((((w.alloc (.cells #[.pointer (some ⟨b, 0, none⟩)] 25)).alloc (.cells #[.int .i64 (slot : Int)] 3)).alloc (.cells #[.slice none 0 0] 74)).alloc (.cells #[.slice (some ⟨g, off, none⟩) len cap] 35)) (.cells #[.int .i64 512] 3)
    rw [hw5]; simpa using this
  rw [← hw5]
  clear hw5
  obtain ⟨hgl, hgc⟩ : g < w.heap.size ∧ ∃ v, w.cell? ⟨g, off, none⟩ = some v := by
    obtain ⟨a', len', cap', e, q1, q2, q3, q4, q5⟩ := hb
    injection e with e1 e2 e3; subst e1 e2 e3
    obtain ⟨b', o', q, hlt, hc⟩ := q5 hpos
    injection q with q; injection q with q1 q2; subst q1 q2
    exact ⟨hlt, _, hc 0 (by omega)⟩
  have hI0 : FlI w b g (w.heap.size + 1 + 1) w5.heap.size slot (Sk.front d.n slot) bs [] w5 :=
    ⟨.slice none 0 0, [], b2, ⟨rfl, Or.inl ⟨rfl, rfl⟩⟩, StsAt.nil _ _ _, hb5, b0, b1, Nat.le_refl _⟩
  refine wpIn_rangeFunc_ownH (α := Nat) rfl h1 (gf := 68) (lb := #[.pointer (some ⟨w.heap.size + 1 + 1 + 1, 0, none⟩), .pointer (some ⟨w.heap.size + 1 + 1 + 1 + 1, 0, none⟩)]) rfl trivial (enters_of Try.func68 (by kernel_rfl) rfl)
    (encs := fun x => #[chV g off len x]) (Kp := KeepT (w.heap.size + 1 + 1 + 1) (w.heap.size + 1 + 1 + 1 + 1)) (S := fun ys => ys = List.range ((len + 511) / 512)) (Sp := fun _ => True) (N := (len + 511) / 512) (w0 := w5)
    (fun l J Jx W hW hJ _ hY h0 => chunk1_in (n - 1) (by omega) l _ _ g off len cap hlc hl J Jx hY W hJ (by rw [(Has.later b3 hW).cell]; rfl) (by rw [(Has.later b4 hW).cell]; rfl) h0)
    KeepT.trans (fun W l o o' hl0 _ _ _ => ⟨World.putObj_heap_other (by omega), World.putObj_heap_other (by omega)⟩) (Below.refl _ _) (fun _ => rfl)
    (FlI w b g (w.heap.size + 1 + 1) w5.heap.size slot (Sk.front d.n slot) bs) (fun _ _ _ => False) (flI_own (by omega)) (fun _ _ _ _ _ hs _ _ => hs) hI0
    (fun x a' W => ∃ P1, w5.heap.size ≤ P1 ∧ Has W P1 (.cells #[chV g off len x] 35 (0, 0)) ∧ a' = { tmps := #[.pointer (some ⟨b, 0, none⟩), .int .i64 (slot : Int), .slice (some ⟨g, off, none⟩) len cap, .pointer (some ⟨w.heap.size, 0, none⟩), .pointer (some ⟨w.heap.size + 1, 0, none⟩), undef, .slice none 0 0, .pointer (some ⟨w.heap.size + 1 + 1, 0, none⟩), .pointer (some ⟨P1, 0, none⟩), undef, .slice (some ⟨g, off, none⟩) len cap, .func (.func 68) #[] #[.pointer (some ⟨w.heap.size + 1 + 1 + 1, 0, none⟩), .pointer (some ⟨w.heap.size + 1 + 1 + 1 + 1, 0, none⟩)], chV g off len x, undef, undef, undef, undef, undef, undef, undef, undef, undef, undef, undef, undef], defers := [] })
    ?hAx ?assign ?body ?done ?stop
  case hAx =>
    rintro x a' _ W W' row ⟨P1, q1, q2, q3⟩ hg hr
    exact ⟨P1, q1, q2.grown hg (fun e => by
      obtain ⟨_, o, ho, hc⟩ := hr P1 e.symm
      rw [show W.heap[P1]? = _ from q2] at ho
      cases ho; cases hc), q3⟩
  case stop =>
    rintro D c pre W _ _ h _
    exact h.elim
  case assign =>
    rintro l pre x W K ⟨sv, vs, h1, h2, h3, h4, h5, h6, h7⟩ hK
    have hI' : Hid (FlI w b g (w.heap.size + 1 + 1) w5.heap.size slot (Sk.front d.n slot) bs pre (W.alloc (.cells #[chV g off len x] 35))) := by
      have hb1 := below1 W (.cells #[chV g off len x] 35)
      exact ⟨sv, vs, h1.later hb1, own_same h2 (fun q hq => hb1.block q (h2.lt q hq).2), (h3.keep (fun k h => hb1.block k h.2.2.2.lt)).mono (fun k h => ⟨h.1, h.2.1, h.2.2.1, h.2.2.2.keep (hb1.block k h.2.2.2.lt)⟩), h4.trans (hb1.mono h4.size), h5.later hb1, h6.later hb1, Nat.le_trans h7 hb1.size⟩
    have HSZ := Lib.hid h7
    have HK : Hid (KeepT (w.heap.size + 1 + 1 + 1) (w.heap.size + 1 + 1 + 1 + 1) W (W.alloc (.cells #[chV g off len x] 35))) := ⟨Below.heap_alloc W _ _ (by omega), Below.heap_alloc W _ _ (by omega)⟩
    obtain ⟨m, hm⟩ : ∃ m, chV g off len x = .slice (some ⟨g, off + 512 * x, none⟩) m m := ⟨_, rfl⟩
    have hHas := Lib.hid (Has.new W (.cells #[chV g off len x] 35))
    have HM := Lib.hid hm
    have HK2 := Lib.hid hK
    clear h1 h2 h3 h4 h5 h6 h7 hm hK
    rw [HM.out] at hI' HK hHas HK2 ⊢
    gi_wp2
    exact HK2.out _ _ ((KeepsOthers.alloc _ _).from _) HK.out hI'.out ⟨W.heap.size, HSZ.out, hHas.out, rfl⟩
  case body =>
    rintro l pre x a' W hl ⟨r, hr⟩ ⟨sv, vs, h1, h2, h3, h4, h5, h6, h7⟩ ⟨P1, hP1, hx, rfl⟩ hlt
    have hn8 := hok.hi
    have hn1 := hok.lo
    have hfr8 : Sk.front d.n slot ≤ 20000 := by
      unfold Sk.front Sk.share
      have : slot * ((d.n - 1) / 2) ≤ 1 * ((d.n - 1) / 2) := Nat.mul_le_mul_right _ hs
      omega
    have HLEN : Hid (∀ wx, Below W.heap.size W wx → Calls Try.prog 28 #[.pointer (some ⟨b, 0, none⟩)] wx fun e w' => e = .returned (.int .i64 (d.n : Int)) ∧ wx = w') := fun wx hbx => len_any wx S b d (h.later (h4.trans (hbx.mono h4.size)))
    have HFR : Hid (∀ wx, Calls Try.prog 56 #[.int .i64 (d.n : Int), .int .i64 (slot : Int)] wx fun e w' => e = .returned (.int .i64 ((Sk.front d.n slot : Nat) : Int)) ∧ wx = w') := fun wx => zfront_any d.n slot hn1 hn8 hs wx
    generalize Sk.front d.n slot = FR at h3 hfr8 HFR ⊢
    obtain ⟨m, hm⟩ : ∃ m, m = pre.length := ⟨_, rfl⟩
    obtain ⟨sa, sc, hsv, hsc⟩ := own_len h2
    rw [← hm] at hsv hlt
    have hm4 : m ≤ 4000 := by omega
    have c3 : W.cell? ⟨w.heap.size, 0, none⟩ = some (.pointer (some ⟨b, 0, none⟩)) := h5.cell 0
    have c4 : W.cell? ⟨w.heap.size + 1, 0, none⟩ = some (.int .i64 (slot : Int)) := h6.cell 0
    have c7 : W.cell? ⟨w.heap.size + 1 + 1, 0, none⟩ = some (.slice sa m sc) := by rw [← hsv]; exact h1.cell 0
    have KB0 : Hid (Below W.heap.size W W.drew) := below_drewN (Below.refl _ _) 1
    have KB1 : Hid (Below W.heap.size W (W.drew.alloc (.cells #[.int .i64 0] 3))) := KB0.out.alloc (Nat.le_refl _) _
    have KB2 : Hid (Below W.heap.size W (W.drew.alloc (.cells #[.int .i64 ((FR + m : Nat) : Int)] 3))) := KB0.out.alloc (Nat.le_refl _) _
    have L3 : ∀ wx, Below W.heap.size W wx → wx.cell? ⟨w.heap.size, 0, none⟩ = some (.pointer (some ⟨b, 0, none⟩)) := fun wx hb => (hb.cell (p := ⟨w.heap.size, 0, none⟩) h5.lt).trans c3
    have L4 : ∀ wx, Below W.heap.size W wx → wx.cell? ⟨w.heap.size + 1, 0, none⟩ = some (.int .i64 (slot : Int)) := fun wx hb => (hb.cell (p := ⟨w.heap.size + 1, 0, none⟩) h6.lt).trans c4
    have L7 : ∀ wx, Below W.heap.size W wx → wx.cell? ⟨w.heap.size + 1 + 1, 0, none⟩ = some (.slice sa m sc) := fun wx hb => (hb.cell (p := ⟨w.heap.size + 1 + 1, 0, none⟩) h1.lt).trans c7
    have HADD : Value.int .i64 (IntKind.i64.wrap ((FR : Int) + (m : Int))) = .int .i64 ((FR + m : Nat) : Int) := by
      have e : IntKind.i64.wrap ((FR : Int) + (m : Int)) = ((FR + m : Nat) : Int) := by rw [IntKind.wrap_i64]; omega
      rw [e]
    have H1 := Lib.hid h1
    have H2 := Lib.hid h2
    have H3 := Lib.hid h3
    have H4 := Lib.hid h4
    have H5 := Lib.hid h5
    have H6 := Lib.hid h6
    have H7 := Lib.hid h7
    have HX := Lib.hid hx
    have HP := Lib.hid hP1
    have HM := Lib.hid hm
    have HSV := Lib.hid hsv
    have HB := Lib.hid hb
    have HGC := Lib.hid hgc
    have HN5 := Lib.hid hs5
    have HGL := Lib.hid hgl
    clear h1 h2 h3 h4 h5 h6 h7 hx hP1 hm hsv hb hgc hn8 hn1 hfr8 hsc hI0 b0 b1 b2 b3 b4 hb5 h hok hl hlt c3 c4 c7 hlc hs5 hgl hs
    gi_wp2
    refine region_round_one (S := fun wx => Below W.heap.size W wx) { tmps := #[.pointer (some ⟨b, 0, none⟩), .int .i64 (slot : Int), .slice (some ⟨g, off, none⟩) len cap, .pointer (some ⟨w.heap.size, 0, none⟩), .pointer (some ⟨w.heap.size + 1, 0, none⟩), undef, .slice none 0 0, .pointer (some ⟨w.heap.size + 1 + 1, 0, none⟩), .pointer (some ⟨P1, 0, none⟩), .pointer (some ⟨W.heap.size, 0, none⟩), .slice (some ⟨g, off, none⟩) len cap, .func (.func 68) #[] #[.pointer (some ⟨w.heap.size + 1 + 1 + 1, 0, none⟩), .pointer (some ⟨w.heap.size + 1 + 1 + 1 + 1, 0, none⟩)], chV g off len x, .pointer (some ⟨b, 0, none⟩), .int .i64 (d.n : Int), .int .i64 (slot : Int), .int .i64 (FR : Int), .slice sa m sc, .int .i64 (m : Int), .int .i64 ((FR + m : Nat) : Int), undef, undef, undef, undef, undef], defers := [] } (W.drew.alloc (.cells #[.int .i64 ((FR + m : Nat) : Int)] 3)) (by kernel_rfl) (by kernel_rfl) KB0.out (fun Q' HQ => ?_) ?tail
    case tail =>
      clear KB0 KB1 L3 L4 L7 HADD HLEN HFR
      have HA9 : Hid (Has (W.drew.alloc (.cells #[.int .i64 ((FR + m : Nat) : Int)] 3)) W.heap.size (.cells #[.int .i64 ((FR + m : Nat) : Int)] 3 (0, 0))) := Has.new W.drew _
      have HZ9 : Hid ((W.drew.alloc (.cells #[.int .i64 ((FR + m : Nat) : Int)] 3)).heap.size = W.heap.size + 1) := by show (W.alloc _).heap.size = _; simp
      generalize W.drew.alloc (.cells #[.int .i64 ((FR + m : Nat) : Int)] 3) = W9 at KB2 HA9 HZ9 ⊢
      -- what lies in W lies in W9, and behind the new row of one
      have B10 : Hid (Below W.heap.size W (W9.alloc (.cells #[(.func (.func 57) #[] #[.pointer (some ⟨P1, 0, none⟩), .pointer (some ⟨w.heap.size, 0, none⟩), .pointer (some ⟨W.heap.size, 0, none⟩)])] 77))) := KB2.out.trans ((below1 W9 _).mono KB2.out.size)
      have HV10 : Hid (Has (W9.alloc (.cells #[(.func (.func 57) #[] #[.pointer (some ⟨P1, 0, none⟩), .pointer (some ⟨w.heap.size, 0, none⟩), .pointer (some ⟨W.heap.size, 0, none⟩)])] 77)) W9.heap.size (.cells #[(.func (.func 57) #[] #[.pointer (some ⟨P1, 0, none⟩), .pointer (some ⟨w.heap.size, 0, none⟩), .pointer (some ⟨W.heap.size, 0, none⟩)])] 77 (0, 0))) := Has.new W9 _
      have HA10 : Hid (Has (W9.alloc (.cells #[(.func (.func 57) #[] #[.pointer (some ⟨P1, 0, none⟩), .pointer (some ⟨w.heap.size, 0, none⟩), .pointer (some ⟨W.heap.size, 0, none⟩)])] 77)) W.heap.size (.cells #[.int .i64 ((FR + m : Nat) : Int)] 3 (0, 0))) := HA9.out.alloc _
      have HZ10 : Hid ((W9.alloc (.cells #[(.func (.func 57) #[] #[.pointer (some ⟨P1, 0, none⟩), .pointer (some ⟨w.heap.size, 0, none⟩), .pointer (some ⟨W.heap.size, 0, none⟩)])] 77)).heap.size = W.heap.size + 2) := by
        have := HZ9.out
        show (W9.alloc _).heap.size = _; simp; omega
      have HO10 : Hid ((W9.alloc (.cells #[(.func (.func 57) #[] #[.pointer (some ⟨P1, 0, none⟩), .pointer (some ⟨w.heap.size, 0, none⟩), .pointer (some ⟨W.heap.size, 0, none⟩)])] 77)).ownsRow w5.heap.size 77 1 (.slice sa m sc) m vs) := by
        have q := own_same H2.out (w' := W9.alloc (.cells #[(.func (.func 57) #[] #[.pointer (some ⟨P1, 0, none⟩), .pointer (some ⟨w.heap.size, 0, none⟩), .pointer (some ⟨W.heap.size, 0, none⟩)])] 77)) (fun q hq => B10.out.block q (H2.out.lt q hq).2)
        rw [← HM.out, HSV.out] at q; exact q
      have c7 : W9.cell? ⟨w.heap.size + 1 + 1, 0, none⟩ = some (.slice sa m sc) := by
        rw [KB2.out.cell (p := ⟨w.heap.size + 1 + 1, 0, none⟩) H1.out.lt, ← HSV.out]; exact H1.out.cell 0
      obtain ⟨v', W11, hrun, ho11, hg11, hb11⟩ : ∃ v' W11, (Builtin.append_ #[74, 74] 74 #[.slice sa m sc, .slice (some ⟨W9.heap.size, 0, none⟩) 1 1]).run Try.prog (W9.alloc (.cells #[(.func (.func 57) #[] #[.pointer (some ⟨P1, 0, none⟩), .pointer (some ⟨w.heap.size, 0, none⟩), .pointer (some ⟨W.heap.size, 0, none⟩)])] 77)) = .ok v' W11 ∧ W11.ownsRow w5.heap.size 77 1 v' (m + 1) (vs ++ [(.func (.func 57) #[] #[.pointer (some ⟨P1, 0, none⟩), .pointer (some ⟨w.heap.size, 0, none⟩), .pointer (some ⟨W.heap.size, 0, none⟩)])]) ∧ (W9.alloc (.cells #[(.func (.func 57) #[] #[.pointer (some ⟨P1, 0, none⟩), .pointer (some ⟨w.heap.size, 0, none⟩), .pointer (some ⟨W.heap.size, 0, none⟩)])] 77)).grownBy W11 (Value.ownBlock (.slice sa m sc)) ∧ (v'.ownBlock = Value.ownBlock (.slice sa m sc) ∨ v'.ownBlock = some (W.heap.size + 2)) := by
        obtain ⟨i0, hi, hz0, hz1, hz2⟩ := info_parts Try.infoStep
        obtain ⟨v', W11, q1, q2, q3, _, q5⟩ := run_append_own_at (P := Try.prog) (w := W9.alloc (.cells #[(.func (.func 57) #[] #[.pointer (some ⟨P1, 0, none⟩), .pointer (some ⟨w.heap.size, 0, none⟩), .pointer (some ⟨W.heap.size, 0, none⟩)])] 77)) w5.heap.size 74 74 77 i0 _ 1 8 Try.underlying74 hi hz0 hz1 hz2 rfl (by decide) (.slice sa m sc) m vs HO10.out ⟨W9.heap.size, 0, none⟩ 1 1 [(.func (.func 57) #[] #[.pointer (some ⟨P1, 0, none⟩), .pointer (some ⟨w.heap.size, 0, none⟩), .pointer (some ⟨W.heap.size, 0, none⟩)])] rfl
          (fun j u hj => by
            obtain rfl : j = 0 := by have := (List.getElem?_eq_some_iff.1 hj).1; simpa using this
            rw [Addr.add_mid, HV10.out.cell]; exact hj) (by simp [Value.oneCell']) (by unfold maxLen; omega) (by omega) (by rw [HZ10.out]; have := H7.out; omega)
        rw [HZ10.out] at q5
        exact ⟨v', W11, q1, q2, q3, q5⟩
      have HRUN := Lib.hid hrun
      have HO11 := Lib.hid ho11
      have HG11 := Lib.hid hg11
      have HB11 := Lib.hid hb11
      obtain ⟨va, vc, hva, _⟩ := own_len ho11
      have hne7 : Value.ownBlock (.slice sa m sc) ≠ some (w.heap.size + 1 + 1) := fun e => by
        have := (HO10.out.lt _ e).1; have := HN5.out; omega
      have t11 : W11.heap[w.heap.size + 1 + 1]? = W.heap[w.heap.size + 1 + 1]? := (hg11.block _ (by rw [HZ10.out]; have := H1.out.lt; omega) (fun e => hne7 e.symm)).trans (B10.out.block _ H1.out.lt)
      have T11 : Hid (Has W11 (w.heap.size + 1 + 1) (.cells #[sv] 74 (0, 0))) := t11.trans H1.out
      have c11 : W11.cell? ⟨w.heap.size + 1 + 1, 0, none⟩ = some sv := T11.out.cell 0
      have f11 : W11.frozen? ⟨w.heap.size + 1 + 1, 0, none⟩ = false := T11.out.free 0
      subst hva
      clear hrun ho11 hg11 hb11 t11 hne7
      gi_wp2_with (refine wpListIn_runR rfl (fun c h => by cases h) rfl (exec_append (.tmp 20) (.tmp 22) 74 rfl (.slice sa m sc) (.slice (some ⟨W9.heap.size, 0, none⟩) 1 1) (.slice va (m + 1) vc) rfl rfl HRUN.out) ?_)
      have hsize : W.heap.size + 2 ≤ W11.heap.size := by have := HG11.out.size; rw [HZ10.out] at this; exact this
      have hT : w.heap.size + 1 + 1 < w5.heap.size := by have := HN5.out; omega
      have hrow : ∀ k, Value.ownBlock (.slice sa m sc) = some k → w5.heap.size ≤ k ∧ k < W.heap.size ∧ Cl W k := fun k hk => by
        have q := H2.out
        rw [HSV.out] at q
        refine ⟨(q.lt k hk).1, (q.lt k hk).2, ?_⟩
        rcases q.2 with ⟨q, _⟩ | ⟨g', c', cur, q, _, hb', _⟩
        · rw [q] at hk; cases hk
        · rw [q] at hk; cases hk; exact ⟨_, hb', rfl⟩
      obtain ⟨W12, hW12⟩ : ∃ x, x = W11.setCell ⟨w.heap.size + 1 + 1, 0, none⟩ (.slice va (m + 1) vc) := ⟨_, rfl⟩
      rw [← hW12]
      have hz12 : W12.heap.size = W11.heap.size := by rw [hW12]; simp
      have KEEP : ∀ k, k < W.heap.size → Value.ownBlock (.slice sa m sc) ≠ some k → k ≠ w.heap.size + 1 + 1 → W12.heap[k]? = W.heap[k]? := fun k hk hr2 ht => by
        rw [hW12]
        exact (Below.heap_setCell _ _ _ k ht).trans ((HG11.out.block k (by rw [HZ10.out]; omega) (fun e => hr2 e.symm)).trans (B10.out.block k hk))
      have hold : ∀ k, k < w5.heap.size → k ≠ w.heap.size + 1 + 1 → W12.heap[k]? = W.heap[k]? := fun k hk ht => KEEP k (by have := H7.out; omega) (fun e => by have := (hrow k e).1; omega) ht
      have hnew : ∀ k, Value.ownBlock (.slice va (m + 1) vc) = some k → w5.heap.size ≤ k ∧ (Value.ownBlock (.slice sa m sc) = some k ∨ k = W.heap.size + 2) := fun k hk => by
        refine ⟨(HO11.out.lt k hk).1, ?_⟩
        rcases HB11.out with e | e
        · exact Or.inl (e.symm.trans hk)
        · rw [hk] at e; exact Or.inr (Option.some.inj e)
      have BW12 : Below w.heap.size w W12 := by
        have q1 := H4.out.trans (B10.out.mono H4.out.size)
        have q2 := q1.grown HG11.out q1.size (fun q e => by have := (hrow q e).1; have := HN5.out; omega)
        rw [hW12]
        exact q2.setCell (p := ⟨w.heap.size + 1 + 1, 0, none⟩) (by show w.heap.size ≤ w.heap.size + 1 + 1; omega) _
      have hA : Has W12 W.heap.size (.cells #[.int .i64 ((FR + m : Nat) : Int)] 3 (0, 0)) := by
        rw [hW12]
        exact (HA10.out.grown HG11.out (fun e => by have := (hrow _ e.symm).2.1; omega)).set (a := ⟨w.heap.size + 1 + 1, 0, none⟩) (by show _ ≠ w.heap.size + 1 + 1; have := H7.out; omega) _
      have hP1 : Has W12 P1 (.cells #[chV g off len x] 35 (0, 0)) := (KEEP P1 HX.out.lt (fun e => by
        have q := H2.out
        rw [HSV.out] at q
        exact own_ne_has q HX.out (by decide) e) (by have := HP.out; omega)).trans HX.out
      have hD12 : Has W12 w.heap.size (.cells #[.pointer (some ⟨b, 0, none⟩)] 25 (0, 0)) := (hold _ (by have := HN5.out; omega) (by omega)).trans H5.out
      have hS12 : Has W12 (w.heap.size + 1) (.cells #[.int .i64 (slot : Int)] 3 (0, 0)) := (hold _ (by have := HN5.out; omega) (by omega)).trans H6.out
      have hE : ∀ k, FlE w g (w.heap.size + 1 + 1) sv W k → W12.heap[k]? = W.heap[k]? := fun k hk => KEEP k hk.2.2.2.lt (by have := hk.2.2.1; rw [HSV.out] at this; exact this) hk.2.1
      have hclg : Cl W12 g := by
        obtain ⟨v0, hv0⟩ := HGC.out
        exact (Cl.of_cell hv0).keep (BW12.block g HGL.out)
      have hEnew : ∀ k, (k = g ∨ w.heap.size ≤ k) → k ≠ w.heap.size + 1 + 1 → (k < w5.heap.size ∨ (Value.ownBlock (.slice sa m sc) ≠ some k ∧ k ≠ W.heap.size + 2)) → Cl W12 k → FlE w g (w.heap.size + 1 + 1) (.slice va (m + 1) vc) W12 k := fun k h1 h2 h3 h4 => by
        refine ⟨h1, h2, fun e => ?_, h4⟩
        obtain ⟨e1, e2⟩ := hnew k e
        rcases h3 with h3 | ⟨h3, h3'⟩
        · omega
        · rcases e2 with e2 | e2
          · exact h3 e2
          · exact h3' e2
      have hml : (pre ++ [x]).length = m + 1 := by rw [List.length_append, ← HM.out]; rfl
      refine ⟨⟨by rw [hz12]; omega, fun k o hk ho hc => ?_⟩, ⟨hold _ (by have := HN5.out; omega) (by omega), hold _ (by have := HN5.out; omega) (by omega)⟩, .slice va (m + 1) vc, vs ++ [(.func (.func 57) #[] #[.pointer (some ⟨P1, 0, none⟩), .pointer (some ⟨w.heap.size, 0, none⟩), .pointer (some ⟨W.heap.size, 0, none⟩)])], ?_, ?_, ?_, BW12, hD12, hS12, by rw [hz12]; have := H7.out; omega⟩
      · refine (KEEP k (Array.getElem?_eq_some_iff.1 ho).1 (fun e => ?_) (by omega)).trans ho
        obtain ⟨o', q1, q2⟩ := (hrow k e).2.2
        rw [ho] at q1; cases q1; rw [hc] at q2; cases q2
      · rw [hW12]; exact T11.out.setSelf (i := 0) _
      · rw [hml]
        exact own_same HO11.out (fun q hq => by rw [hW12]; exact Below.heap_setCell _ _ _ q (by have := (hnew q hq).1; show q ≠ w.heap.size + 1 + 1; omega))
      · rw [Sk.laid_snoc, ← HM.out]
        refine StsAt.append ((H3.out.keep hE).mono (fun k hk => hEnew k hk.1 hk.2.1 (Or.inr ⟨by have := hk.2.2.1; rw [HSV.out] at this; exact this, by have := hk.2.2.2.lt; omega⟩) (hk.2.2.2.keep (hE k hk)))) (StsAt.one (Or.inl ⟨P1, w.heap.size, W.heap.size, _, _, _, Sk.piece bs x, rfl, hP1.cell 0, hD12.cell 0, hA.cell 0, (chV_sl HB.out x).later BW12, ?_, rfl, ?_, ?_, ?_, ?_⟩))
        · rw [Sk.piece_length]; exact Nat.min_le_left _ _
        · exact hEnew P1 (Or.inr (by have := HP.out; have := HN5.out; omega)) (by have := HP.out; omega) (Or.inr ⟨fun e => by
            have q := H2.out
            rw [HSV.out] at q
            exact own_ne_has q HX.out (by decide) e, by have := HX.out.lt; omega⟩) ⟨_, hP1, rfl⟩
        · exact hEnew _ (Or.inr (Nat.le_refl _)) (by omega) (Or.inl (by have := HN5.out; omega)) ⟨_, hD12, rfl⟩
        · exact hEnew _ (Or.inr H4.out.size) (by have := H7.out; omega) (Or.inr ⟨fun e => by have := (hrow _ e).2.1; omega, by omega⟩) ⟨_, hA, rfl⟩
        · intro g' off' spot len' c' e
          injection e with e _ _
          injection e with e
          injection e with e _ _
          subst e
          exact hEnew g (Or.inl rfl) (by have := HGL.out; omega) (Or.inl (by have := HGL.out; have := HN5.out; omega)) hclg
    change wpAnyH _ _ _ _ _ 9 (Array.replicate 9 false) _ _
    refine wpAnyH_take (i := 0) (v := ?_) rfl (by kernel_rfl) (by kernel_rfl) (by kernel_rfl) (fun _ _ _ h => h) (Or.inl ⟨rfl, ?hy0⟩) KB0.out ?_
    case hy0 => intro w' hw'; have q := L3 w' hw'; clear hw'; go_simp; first | done | rfl
    (try simp only [Act.put, List.getElem_toArray, List.getElem_cons_zero, List.setIfInBounds_toArray, List.set_cons_zero, List.set_cons_succ])
    refine wpAnyH_take (i := 2) (v := ?_) rfl (by kernel_rfl) (by kernel_rfl) (by kernel_rfl) (fun _ _ _ h => h) (Or.inl ⟨rfl, ?hy2⟩) KB0.out ?_
    case hy2 => intro w' hw'; have q := L4 w' hw'; clear hw'; go_simp; first | done | rfl
    (try simp only [Act.put, List.getElem_toArray, List.getElem_cons_zero, List.getElem_cons_succ, List.setIfInBounds_toArray, List.set_cons_zero, List.set_cons_succ])
    refine wpAnyH_take (i := 4) (v := ?_) rfl (by kernel_rfl) (by kernel_rfl) (by kernel_rfl) (fun _ _ _ h => h) (Or.inl ⟨rfl, ?hy4⟩) KB0.out ?_
    case hy4 => intro w' hw'; have q := L7 w' hw'; clear hw'; go_simp; first | done | rfl
    (try simp only [Act.put, List.getElem_toArray, List.getElem_cons_zero, List.getElem_cons_succ, List.setIfInBounds_toArray, List.set_cons_zero, List.set_cons_succ])
    refine wpAnyH_take (i := 5) (v := ?_) rfl (by kernel_rfl) (by kernel_rfl) (by kernel_rfl) (fun _ _ _ h => h) (Or.inl ⟨rfl, ?hy5⟩) KB0.out ?_
    case hy5 => intro w' hw'; clear hw'; go_simp; first | done | rfl
    (try simp only [Act.put, List.getElem_toArray, List.getElem_cons_zero, List.getElem_cons_succ, List.setIfInBounds_toArray, List.set_cons_zero, List.set_cons_succ])
    refine wpAnyH_ready (rs := [1, 7]) (by kernel_rfl) (by simp) ?_
    refine AllReadyH.cons rfl (fun K hK => ?_) (AllReadyH.cons rfl (fun K hK => ?_) AllReadyH.nil)
    · go_simp
      refine (HLEN.out _ (KB0.out)).mono ?_
      rintro e w' ⟨rfl, rfl⟩
      dsimp only
      refine hK.out _ _ KB0.out (fun _ => ?_)
      clear hK K
      (try simp only [Act.put, List.getElem_toArray, List.getElem_cons_zero, List.getElem_cons_succ, List.setIfInBounds_toArray, List.set_cons_zero, List.set_cons_succ])
      refine wpAnyH_ready (rs := [3, 7]) (by kernel_rfl) (by simp) ?_
      refine AllReadyH.cons rfl (fun K hK => ?_) (AllReadyH.cons rfl (fun K hK => ?_) AllReadyH.nil)
      · go_simp
        refine (HFR.out _).mono ?_
        rintro e w' ⟨rfl, rfl⟩
        dsimp only
        refine hK.out _ _ KB0.out (fun _ => ?_)
        clear hK K
        (try simp only [Act.put, List.getElem_toArray, List.getElem_cons_zero, List.getElem_cons_succ, List.setIfInBounds_toArray, List.set_cons_zero, List.set_cons_succ])
        refine wpAnyH_take (i := 6) (v := (.int .i64 ((FR + m : Nat) : Int))) rfl (by kernel_rfl) (by kernel_rfl) (by kernel_rfl) (fun _ _ _ h => h) (Or.inl ⟨rfl, ?hy6⟩) KB0.out ?_
        case hy6 => intro w' hw'; clear hw'; go_simp; first | done | rfl
        (try simp only [Act.put, List.getElem_toArray, List.getElem_cons_zero, List.getElem_cons_succ, List.setIfInBounds_toArray, List.set_cons_zero, List.set_cons_succ])
        refine wpAnyH_ready (rs := [7]) (by kernel_rfl) (by simp) ?_
        refine AllReadyH.cons rfl (fun K hK => ?_) AllReadyH.nil
        go_simp
        refine hK.out _ _ KB1.out (fun _ => ?_)
        clear hK K
        (try simp only [Act.put, List.getElem_toArray, List.getElem_cons_zero, List.getElem_cons_succ, List.setIfInBounds_toArray, List.set_cons_zero, List.set_cons_succ])
        refine wpAnyH_ready (rs := [8]) (by kernel_rfl) (by simp) ?_
        refine AllReadyH.cons rfl (fun K hK => ?_) AllReadyH.nil
        go_simp
        refine hK.out _ _ KB2.out (fun _ => ?_)
        clear hK K
        (try simp only [Act.put, List.getElem_toArray, List.getElem_cons_zero, List.getElem_cons_succ, List.setIfInBounds_toArray, List.set_cons_zero, List.set_cons_succ])
        refine wpAnyH_done (by kernel_rfl) ?_ _
        exact HQ.out
      · go_simp
        refine hK.out _ _ KB1.out (fun _ => ?_)
        clear hK K
        (try simp only [Act.put, List.getElem_toArray, List.getElem_cons_zero, List.getElem_cons_succ, List.setIfInBounds_toArray, List.set_cons_zero, List.set_cons_succ])
        refine wpAnyH_ready (rs := [3]) (by kernel_rfl) (by simp) ?_
        refine AllReadyH.cons rfl (fun K hK => ?_) AllReadyH.nil
        go_simp
        refine (HFR.out _).mono ?_
        rintro e w' ⟨rfl, rfl⟩
        dsimp only
        refine hK.out _ _ KB1.out (fun _ => ?_)
        clear hK K
        (try simp only [Act.put, List.getElem_toArray, List.getElem_cons_zero, List.getElem_cons_succ, List.setIfInBounds_toArray, List.set_cons_zero, List.set_cons_succ])
        refine wpAnyH_take (i := 6) (v := (.int .i64 ((FR + m : Nat) : Int))) rfl (by kernel_rfl) (by kernel_rfl) (by kernel_rfl) (fun _ _ _ h => h) (Or.inl ⟨rfl, ?hy6⟩) KB1.out ?_
        case hy6 => intro w' hw'; clear hw'; go_simp; first | done | rfl
        (try simp only [Act.put, List.getElem_toArray, List.getElem_cons_zero, List.getElem_cons_succ, List.setIfInBounds_toArray, List.set_cons_zero, List.set_cons_succ])
        refine wpAnyH_ready (rs := [8]) (by kernel_rfl) (by simp) ?_
        refine AllReadyH.cons rfl (fun K hK => ?_) AllReadyH.nil
        go_simp
        refine hK.out _ _ KB2.out (fun _ => ?_)
        clear hK K
        (try simp only [Act.put, List.getElem_toArray, List.getElem_cons_zero, List.getElem_cons_succ, List.setIfInBounds_toArray, List.set_cons_zero, List.set_cons_succ])
        refine wpAnyH_done (by kernel_rfl) ?_ _
        exact HQ.out
    · go_simp
      refine hK.out _ _ KB1.out (fun _ => ?_)
      clear hK K
      (try simp only [Act.put, List.getElem_toArray, List.getElem_cons_zero, List.getElem_cons_succ, List.setIfInBounds_toArray, List.set_cons_zero, List.set_cons_succ])
      refine wpAnyH_ready (rs := [1]) (by kernel_rfl) (by simp) ?_
      refine AllReadyH.cons rfl (fun K hK => ?_) AllReadyH.nil
      go_simp
      refine (HLEN.out _ (KB1.out)).mono ?_
      rintro e w' ⟨rfl, rfl⟩
      dsimp only
      refine hK.out _ _ KB1.out (fun _ => ?_)
      clear hK K
      (try simp only [Act.put, List.getElem_toArray, List.getElem_cons_zero, List.getElem_cons_succ, List.setIfInBounds_toArray, List.set_cons_zero, List.set_cons_succ])
      refine wpAnyH_ready (rs := [3]) (by kernel_rfl) (by simp) ?_
      refine AllReadyH.cons rfl (fun K hK => ?_) AllReadyH.nil
      go_simp
      refine (HFR.out _).mono ?_
      rintro e w' ⟨rfl, rfl⟩
      dsimp only
      refine hK.out _ _ KB1.out (fun _ => ?_)
      clear hK K
      (try simp only [Act.put, List.getElem_toArray, List.getElem_cons_zero, List.getElem_cons_succ, List.setIfInBounds_toArray, List.set_cons_zero, List.set_cons_succ])
      refine wpAnyH_take (i := 6) (v := (.int .i64 ((FR + m : Nat) : Int))) rfl (by kernel_rfl) (by kernel_rfl) (by kernel_rfl) (fun _ _ _ h => h) (Or.inl ⟨rfl, ?hy6⟩) KB1.out ?_
      case hy6 => intro w' hw'; clear hw'; go_simp; first | done | rfl
      (try simp only [Act.put, List.getElem_toArray, List.getElem_cons_zero, List.getElem_cons_succ, List.setIfInBounds_toArray, List.set_cons_zero, List.set_cons_succ])
      refine wpAnyH_ready (rs := [8]) (by kernel_rfl) (by simp) ?_
      refine AllReadyH.cons rfl (fun K hK => ?_) AllReadyH.nil
      go_simp
      refine hK.out _ _ KB2.out (fun _ => ?_)
      clear hK K
      (try simp only [Act.put, List.getElem_toArray, List.getElem_cons_zero, List.getElem_cons_succ, List.setIfInBounds_toArray, List.set_cons_zero, List.set_cons_succ])
      refine wpAnyH_done (by kernel_rfl) ?_ _
      exact HQ.out
  case done =>
    rintro D ys W hD hT ⟨sv, vs, h1, h2, h3, h4, h5, h6, h7⟩ hK
    have hlen : ys.length = (len + 511) / 512 := by rw [hT, List.length_range]
    have hbl : bs.length = len := by
      obtain ⟨a', len', cap', e, q1, _⟩ := hb
      injection e with e1 e2 e3; omega
    have hxs : Sk.laid (Sk.front d.n slot) bs ys = Sk.fill d.n slot bs := by rw [hT, Sk.laid_fill]; unfold Sk.fill Sk.pieces; rw [hbl]
    have hxl : (Sk.fill d.n slot bs).length = ys.length := by rw [← hxs, Sk.laid_length]
    obtain ⟨gr, cr, rfl, hgr, hgl2⟩ := own_atZ h2 (by omega)
    have hbw := h4.size
    have hDne : ∀ k, Cl W k → k ≠ D := fun k hk e => by
      subst e
      obtain ⟨o, q1, q2⟩ := hk
      rw [hK] at q1; cases q1; cases q2
    have hkeep : ∀ k, Cl W k → (W.putObj D (.deferred none)).heap[k]? = W.heap[k]? := fun k hk => World.putObj_heap_other (hDne k hk)
    have hclg : Cl W gr := by
      rcases h2.2 with ⟨q, _⟩ | ⟨g', c', cur, q, _, hb', _⟩
      · cases q
      · injection q with q; injection q with q; injection q with q; subst q; exact ⟨_, hb', rfl⟩
    have hcr : ys.length ≤ cr := by
      obtain ⟨a', c', e, q⟩ := own_len h2
      injection e with e1 e2 e3; omega
    have hsz : (W.putObj D (.deferred none)).heap.size = W.heap.size := by simp [World.putObj]
    have HP : Hid (StSl (W.putObj D (.deferred none)) (fun k => (k = g ∨ w.heap.size ≤ k) ∧ k < (W.putObj D (.deferred none)).heap.size) b (.slice (some ⟨gr, 0, none⟩) ys.length cr) (Sk.fill d.n slot bs) ∧ Below w.heap.size w (W.putObj D (.deferred none))) := by
      refine ⟨⟨some ⟨gr, 0, none⟩, cr, vs, by rw [hxl], fun q => (by cases q), by rw [hxl]; exact hcr, ?_, fun _ => ⟨gr, rfl, ⟨Or.inr (by omega), by rw [hsz]; exact hgl2⟩, by rw [hsz]; exact hgl2, fun i v hv => ?_⟩⟩, ?_⟩
      · rw [hxs] at h3
        exact (h3.keep (fun k hk => hkeep k hk.2.2.2)).mono (fun k hk => ⟨hk.1, by rw [hsz]; exact hk.2.2.2.lt⟩)
      · rw [World.cell?_of_block (a := ⟨gr, i, none⟩) (hkeep gr hclg), h2.cellAt i (by have := h3.1; rw [Sk.laid_length] at this; have := (List.getElem?_eq_some_iff.1 hv).1; omega)]
        exact hv
      · exact ⟨h4.os, h4.tape, h4.output, by rw [hsz]; exact hbw, fun k hk => (World.putObj_heap_other (by omega)).trans (h4.block k hk)⟩
    have c7 : W.cell? ⟨w.heap.size + 1 + 1, 0, none⟩ = some (.slice (some ⟨gr, 0, none⟩) ys.length cr) := h1.cell 0
    clear h1 h2 h3 h4 h5 h6 h7 hxs hxl hclg hcr hkeep hDne hgr hgl2 hT hlen
    gi_wp2
    exact ⟨by simp, .inl ⟨_, _, rfl, run_takeDeferred hK, ⟨_, by simp [results, Try.results32, go_sem], _, rfl, HP.out⟩⟩⟩
end Go.Proofs.Ythbiibinmofmfaa
