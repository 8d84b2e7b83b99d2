/- Contract of record.lay: a mark, a header's numbers, a name. -/
import Derived.Test.YtillckjohlbaiaaNput
import Derived.Test.YtillckjohlbaiaaNseq
import Derived.Test.YtillckjohlbaiaaNstop

namespace Go.Proofs.Ytillckjohlbaiaa
set_option maxRecDepth 100000
open Go.RowKit Go.Shelf

attribute [local go_sem] Oper.semAt_some

theorem results_cells2 {fn : Func} {p q : Tmp} {ty uy : TypeId} (h : fn.results = #[.cell p ty, .cell q uy]) (tmps : Array Value) (P : Program) (w : World) :
    (results fn tmps).run P w =
      ((asAddr (tmps.getD p undef)).run P w).andThen fun a w₁ => ((loadVar ty a).run P w₁).andThen fun v w₂ => ((asAddr (tmps.getD q undef)).run P w₂).andThen fun b w₃ => ((loadVar uy b).run P w₃).andThen fun u w₄ => .ok (.tuple #[v, u]) w₄ := by
  simp only [results, h]
  simp [Sem.run_bind, Result.andThen]

/-- The bytes of numbers, each in its width. -/
def laid (L : List (Nat × Int)) (v : Nat → Nat) : List Nat := (L.map fun p => Fd.le p.2.toNat (v p.1)).flatten
theorem laid_succ (L : List (Nat × Int)) (v : Nat → Nat) (i : Nat) (p : Nat × Int) (h : L[i]? = some p) : laid (L.take (i + 1)) v = laid (L.take i) v ++ Fd.le p.2.toNat (v p.1) := by
  have hlt := (List.getElem?_eq_some_iff.1 h).1
  unfold laid
  rw [List.take_add_one, h]
  simp
theorem laid_byte (L : List (Nat × Int)) (v : Nat → Nat) : ∀ x ∈ laid L v, x < 256 := by
  intro x hx
  unfold laid at hx
  simp only [List.mem_flatten, List.mem_map] at hx
  obtain ⟨l, ⟨p, _, rfl⟩, hx⟩ := hx
  exact Fd.le_byte _ _ x hx
theorem laid_le (L : List (Nat × Int)) (v : Nat → Nat) (h : ∀ p ∈ L, p.2.toNat ≤ 4) : (laid L v).length ≤ 4 * L.length := by
  induction L with
  | nil => simp [laid]
  | cons p l ih =>
    have h1 := ih (fun q hq => h q (by simp [hq]))
    have h2 := h p (by simp)
    unfold laid at h1 ⊢
    simp only [List.map_cons, List.flatten_cons, List.length_append, List.length_cons, Fd.le_length]
    omega

/-- The bytes so far, in the box of lay: of the mark first, then the call's own. -/
def Lb (b c0 i : Nat) (W : World) (bs : List Nat) : Prop :=
  ∃ a n cap, Has W (b - 1) (.cells #[.slice a n cap] 22 (0, 0)) ∧ n ≤ cap ∧ ((i = 0 ∧ a = some ⟨c0, 0, none⟩ ∧ Sl W (.slice a n cap) bs) ∨ (0 < i ∧ Mine W (b + 2) a n cap bs))

theorem cell_of_block {w w' : World} {g : Nat} (h : w'.heap[g]? = w.heap[g]?) (i : Nat) : w'.cell? ⟨g, i, none⟩ = w.cell? ⟨g, i, none⟩ := by
  simp only [World.cell?, h]
theorem Sl.lo {w w' : World} {b m g : Nat} {n cap : Nat} {bs : List Nat} (h : Sl w (.slice (some ⟨g, 0, none⟩) n cap) bs) (hl : Lo b m w w') (hg : g < b ∨ b + m ≤ g) : Sl w' (.slice (some ⟨g, 0, none⟩) n cap) bs := by
  obtain ⟨a', len', cap', he, h1, h2, h3, h4, h5⟩ := h
  injection he with e1 e2 e3
  subst e1 e2 e3
  refine ⟨_, _, _, rfl, h1, h2, h3, h4, fun hn => ?_⟩
  obtain ⟨b', off, e, hlt, hc⟩ := h5 hn
  injection e with e
  injection e with e1 e2 e3
  subst e1 e2
  refine ⟨g, 0, rfl, Nat.lt_of_lt_of_le hlt hl.size, fun i hi => ?_⟩
  rw [cell_of_block (hl.block g hlt hg)]
  exact hc i hi

theorem Lb.lo {b c0 i : Nat} {A C : World} {bs : List Nat} (h : Lb b c0 i A bs) (hl : Lo b 2 A C) (hb : 0 < b) (hc : c0 < b) : Lb b c0 i C bs := by
  obtain ⟨a, n, cap, h1, h2, h3⟩ := h
  refine ⟨a, n, cap, hl.has h1 (Or.inl (by omega)), h2, ?_⟩
  rcases h3 with ⟨e, ea, hs⟩ | ⟨e, hm⟩
  · subst ea
    exact Or.inl ⟨e, rfl, hs.lo hl (Or.inl hc)⟩
  · exact Or.inr ⟨e, hm.lo hl (Nat.le_refl _)⟩

theorem Lb.sl {b c0 i : Nat} {W : World} {bs : List Nat} (h : Lb b c0 i W bs) (hz : bs.length ≤ 1000) : ∃ a cap, Has W (b - 1) (.cells #[.slice a bs.length cap] 22 (0, 0)) ∧ bs.length ≤ cap ∧ Sl W (.slice a bs.length cap) bs := by
  obtain ⟨a, n, cap, h1, h2, h3⟩ := h
  rcases h3 with ⟨_, _, hs⟩ | ⟨_, hm⟩
  · obtain rfl := hs.len.1
    exact ⟨a, cap, h1, h2, hs⟩
  · obtain rfl := hm.2.1
    exact ⟨a, cap, h1, h2, hm.sl (by omega)⟩

theorem wpListIn_append_two {F : Fence} {n : Nat} {P : Program} {w : World} {ops : Array Oper} {rest : List Oper} {o : Oper} {a : Act} {Q : Exit → Act → World → Prop} (hgd : o.guard = none) (s x : Operand) (t u : TypeId)
    (hop : o.op = Op.call { callee := Callee.builtin Builtin.append, args := #[s, x], argTypes := #[t, u] }) (S X v : Value) (w' : World) (hs : a.eval s = S) (hx : a.eval x = X)
    (hrun : (Builtin.append_ #[t, u] o.type #[S, X]).run P w = .ok v w') (h : wpListIn F n P ops Q rest (a.put o.dst v) w') : wpListIn F n P ops Q (o :: rest) a w :=
  wpListIn_plain hgd fun K hK => by
    unfold Oper.wpIn
    refine ⟨?_, ?_⟩
    · simp [Oper.about, hop, resolve, Target.leads, Sem.run_pure]
    · rw [Oper.semAt_plain F _ _ (by rw [hop]; intro c hc'; cases hc')]
      simp [execOp, hop, resolve, invoke, builtin, hs, hx, hrun, Result.andThen]
      exact hK _ _ h

theorem bytes_below (X : World) (M : ByteArray) : Below X.heap.size X (Lib.bytesWorld X 5 M) :=
  ⟨rfl, rfl, rfl, by rw [Lib.bytesWorld_size]; omega, fun k hk => Lib.bytesWorld_at_old X 5 M k hk⟩
theorem bytes_sl (X : World) (mk : List Nat) (h8 : ∀ x ∈ mk, x < 256) (hl : mk.length ≤ 281474976710656) :
    Sl (Lib.bytesWorld X 5 (strB mk)) (.slice (some ⟨X.heap.size, 0, none⟩) mk.length (grownCap X mk.length 0 5)) mk := by
  refine ⟨_, _, _, rfl, rfl, hl, (fun h => by cases h), h8, fun _ => ⟨X.heap.size, 0, rfl, by rw [Lib.bytesWorld_size]; omega, fun i hi => ?_⟩⟩
  rw [Nat.zero_add, Lib.bytesWorld_cell X 5 (strB mk) i (by rw [strB_size]; exact hi), strB_data]
  have hx := h8 (mk[i]'hi) (List.getElem_mem hi)
  simp only [List.getD, List.getElem?_map, List.getElem?_eq_getElem hi, Option.map_some, Option.getD_some]
  congr 2
  simp
  omega
theorem Mine.set {w : World} {B : Nat} {a : Option Addr} {n cap : Nat} {l : List Nat} (h : Mine w B a n cap l) {k : Nat} (hk : k < B) (v : Value) : Mine (w.setCell ⟨k, 0, none⟩ v) B a n cap l := by
  obtain ⟨⟨h1, h2⟩, h3⟩ := h
  refine ⟨⟨h1, ?_⟩, h3⟩
  rcases h2 with h' | ⟨g, c, cur, h', hbg, hgc, r⟩
  · exact Or.inl h'
  · exact Or.inr ⟨g, c, cur, h', hbg, (Below.heap_setCell _ _ _ _ (by show g ≠ k; omega)).trans hgc, r⟩

set_option maxRecDepth 100000 in
set_option maxHeartbeats 4000000 in
theorem lay_in (n : Nat) (gf H o : Nat) (L : List (Nat × Int)) (hseq : SeqFix Try.prog gf #[.pointer (some ⟨H, o, none⟩)] #[] (L.map (fw H o))) (eg : ∀ args w, (callFunc gf args).run Try.prog w = .ok (.enter gf args) w)
    (v : Nat → Nat) (hv : ∀ p ∈ L, p.2 = (p.2.toNat : Int) ∧ Fits p.2.toNat (v p.1)) (hL0 : 0 < L.length) (hL : L.length ≤ 16) (mk : List Nat) (hmk : ∀ x ∈ mk, x < 256) (hml : mk.length = 4) (S : ByteArray) (hS : S.size ≤ 65535) (w : World)
    (hH : H < w.heap.size) (hc : ∀ p ∈ L, w.cell? ⟨H, o + p.1, none⟩ = some (.int .i64 (v p.1 : Int))) :
    CallsIn Fence.wide n Try.prog 83 #[.string (strB mk), .func (.func gf) #[.pointer (some ⟨H, o, none⟩)] #[], .string S] w fun e w' =>
      ∃ a k cap, e = .returned (.tuple #[.slice a k cap, .int .i64 0]) ∧ Mine w' w.heap.size a k cap (mk ++ laid L v ++ sB S) ∧ Below w.heap.size w w' := by
  have hcv : ∀ W, (convert 9 22 (.string (strB mk))).run Try.prog W = .ok (.slice (some ⟨W.heap.size, 0, none⟩) (strB mk).size (grownCap W (strB mk).size 0 5)) (Lib.bytesWorld W 5 (strB mk)) := fun W =>
    Lib.run_convert_string_bytes W 9 22 5 (strB mk) Try.underlying9 Try.underlying22 Try.underlying5
  have hsz := strB_size mk
  rw [hml] at hsz
  obtain ⟨M, hM⟩ : ∃ M, strB mk = M := ⟨_, rfl⟩
  rw [hM] at hcv hsz ⊢
  have HSEQ := Lib.hid hseq
  have HV := Lib.hid hv
  have HC := Lib.hid hc
  clear hseq hv hc
  refine callsIn_of_wp_marks Try.func83 rfl trivial ?_ rfl
  simp only [Try.ntmps83, List.size_toArray, List.length_cons, List.length_nil, Nat.reduceAdd, Nat.reduceSub, Array.replicate_succ, Array.replicate_zero, List.push_toArray, List.append_toArray, List.nil_append, List.cons_append]
  gi_wp2
  obtain ⟨X, hX⟩ : ∃ X, X = (w.alloc (.cells #[.slice none 0 0] 22)).alloc (.cells #[.int .i64 0] 26) := ⟨_, rfl⟩
  have hXz : X.heap.size = w.heap.size + 2 := by rw [hX]; simp
  have hX0 : Has X w.heap.size (.cells #[.slice none 0 0] 22 (0, 0)) := by rw [hX]; exact (Has.new w _).alloc _
  have hX1 : Has X (w.heap.size + 1) (.cells #[.int .i64 0] 26 (0, 0)) := by
    have := Has.new (w.alloc (.cells #[.slice none 0 0] 22)) (.cells #[.int .i64 0] 26)
    rw [World.size_alloc] at this
    rw [hX]; exact this
  have hXB : Below w.heap.size w X := by rw [hX]; exact below2 w _ _
  rw [← hX]
  have hbz : (Lib.bytesWorld X 5 M).heap.size = w.heap.size + 3 := by rw [Lib.bytesWorld_size, hXz]
  have hbB : Below X.heap.size X (Lib.bytesWorld X 5 M) := bytes_below X M
  have hbS : Sl (Lib.bytesWorld X 5 M) (.slice (some ⟨w.heap.size + 2, 0, none⟩) 4 (grownCap X 4 0 5)) mk := by
    have := bytes_sl X mk hmk (by omega)
    rw [hM, hXz, hml] at this
    exact this
  have hcp : 4 ≤ grownCap X 4 0 5 := grownCap_ge X 4 0 _
  rw [hbz]
  generalize grownCap X 4 0 5 = cp at *
  generalize Lib.bytesWorld X 5 M = Y at *
  obtain ⟨w1, hw1⟩ : ∃ w1, w1 = Y.alloc (.cells #[.slice (some ⟨w.heap.size + 1 + 1, 0, none⟩) 4 cp] 22) := ⟨_, rfl⟩
  rw [← hw1]
  have hz1 : w1.heap.size = w.heap.size + 4 := by rw [hw1]; simp [hbz]
  have b0 : Has w1 w.heap.size (.cells #[.slice none 0 0] 22 (0, 0)) := by rw [hw1]; exact (hX0.later hbB).alloc _
  have b1 : Has w1 (w.heap.size + 1) (.cells #[.int .i64 0] 26 (0, 0)) := by rw [hw1]; exact (hX1.later hbB).alloc _
  have b3 : Has w1 (w.heap.size + 3) (.cells #[.slice (some ⟨w.heap.size + 2, 0, none⟩) 4 cp] 22 (0, 0)) := by
    have := Has.new Y (.cells #[.slice (some ⟨w.heap.size + 1 + 1, 0, none⟩) 4 cp] 22)
    rw [hbz] at this
    rw [hw1]; exact this
  have hs1 : Sl w1 (.slice (some ⟨w.heap.size + 2, 0, none⟩) 4 cp) mk := by rw [hw1]; exact hbS.later (below1 Y _)
  have hB1 : Below w.heap.size w w1 := by rw [hw1]; exact (hXB.trans (hbB.mono (by omega))).trans ((below1 Y _).mono (by omega))
  clear hw1 hX hX0 hX1 hXB hbB hbS hbz hXz hcv
  have i0 : Lb w1.heap.size (w.heap.size + 2) 0 w1 (mk ++ laid (L.take 0) v) := by
    rw [hz1]
    refine ⟨_, 4, cp, b3, hcp, Or.inl ⟨rfl, rfl, ?_⟩⟩
    rw [List.take_zero]
    simpa [laid] using hs1
  have I0 := Lib.hid (⟨i0, b0, b1, hB1⟩ : Lb w1.heap.size (w.heap.size + 2) 0 w1 (mk ++ laid (L.take 0) v) ∧ Has w1 w.heap.size (.cells #[.slice none 0 0] 22 (0, 0)) ∧ Has w1 (w.heap.size + 1) (.cells #[.int .i64 0] 26 (0, 0)) ∧ Below w.heap.size w w1)
  clear i0 b0 b1 b3 hs1 hB1 hcp
  refine range_fix (a₁ := fun p => { tmps := #[.string M, .func (.func gf) #[.pointer (some ⟨H, o, none⟩)] #[], .string S, undef, undef, undef, .pointer (some ⟨w.heap.size, 0, none⟩), .pointer (some ⟨w.heap.size + 1, 0, none⟩), .pointer (some ⟨w.heap.size + 3, 0, none⟩), .pointer (some ⟨H, o + p.1, none⟩), .int .i64 p.2, undef, .string M, .slice (some ⟨w.heap.size + 1 + 1, 0, none⟩) 4 cp, .func (.func gf) #[.pointer (some ⟨H, o, none⟩)] #[], .pointer (some ⟨H, o + p.1, none⟩), .int .i64 p.2, undef, undef, undef, undef, undef, undef, undef, undef, undef, undef, undef, undef, undef, undef, undef], defers := [] })
    (gf := gf) (first := #[.pointer (some ⟨H, o, none⟩)]) (lb := #[]) rfl eg HSEQ.out (fun _ => rfl)
    (fun i W => Lb w1.heap.size (w.heap.size + 2) i W (mk ++ laid (L.take i) v) ∧ Has W w.heap.size (.cells #[.slice none 0 0] 22 (0, 0)) ∧ Has W (w.heap.size + 1) (.cells #[.int .i64 0] 26 (0, 0)) ∧ Below w.heap.size w W)
    (fun i A C h hl => ⟨h.1.lo hl (by omega) (by omega), hl.has h.2.1 (Or.inl (by omega)), hl.has h.2.2.1 (Or.inl (by omega)), hl.below h.2.2.2 (by omega) h.2.2.2.size⟩) I0.out ?assign ?body ?done
  case assign =>
    intro l p W K hK
    unfold fw fld
    gi_wp2
    exact hK
  case body =>
    rintro l i p W hp ⟨hb, h0, h1, hB⟩ hsz
    have hpm : p ∈ L := List.mem_of_getElem? hp
    obtain ⟨hp2, hfit⟩ := HV.out p hpm
    have hlen : (laid (L.take i) v).length ≤ 64 := by
      have h1 := laid_le (L.take i) v (fun q hq => by rcases (HV.out q (List.mem_of_mem_take hq)).2 with ⟨h, _⟩ | ⟨h, _⟩ <;> omega)
      have h2 : (L.take i).length ≤ 16 := by rw [List.length_take]; omega
      omega
    have hsucc : mk ++ laid (L.take (i + 1)) v = (mk ++ laid (L.take i) v) ++ Fd.le p.2.toNat (v p.1) := by rw [laid_succ L v i p hp, List.append_assoc]
    rw [hsucc]
    have hlen2 : (mk ++ laid (L.take i) v).length ≤ 68 := by rw [List.length_append]; omega
    generalize mk ++ laid (L.take i) v = bs at *
    obtain ⟨a, cap, hbox, hcap, hsl⟩ := hb.sl (by omega)
    have hbx : w1.heap.size - 1 = w.heap.size + 3 := by omega
    rw [hbx] at hbox
    have hcH : W.cell? ⟨H, o + p.1, none⟩ = some (.int .i64 (v p.1 : Int)) := (hB.cell (p := ⟨H, o + p.1, none⟩) hH).trans (HC.out p hpm)
    have HP := Lib.hid (wput_ok p.2.toNat a bs.length cap bs (v p.1) hfit hcap (by omega) W.drew (hsl.later (Below.refl _ _).drew))
    rw [← hp2] at HP
    have hbd : Has W.drew (w.heap.size + 3) (.cells #[.slice a bs.length cap] 22 (0, 0)) := hbox
    have hcB := hbd.one.1
    have hcHd : W.drew.cell? ⟨H, o + p.1, none⟩ = some (.int .i64 (v p.1 : Int)) := hcH
    have HE : Hid (∀ a2 cap2 w2, Mine w2 W.heap.size a2 (bs.length + p.2.toNat) cap2 (bs ++ Fd.le p.2.toNat (v p.1)) → Below W.heap.size W.drew w2 → ∀ (aa : Act), FixPost w1.heap.size (fun W => Lb w1.heap.size (w.heap.size + 2) (i + 1) W (bs ++ Fd.le p.2.toNat (v p.1)) ∧ Has W w.heap.size (.cells #[.slice none 0 0] 22 (0, 0)) ∧ Has W (w.heap.size + 1) (.cells #[.int .i64 0] 26 (0, 0)) ∧ Below w.heap.size w W) W .normal aa (w2.setCell ⟨w.heap.size + 3, 0, none⟩ (.slice a2 (bs.length + p.2.toNat) cap2))) := by
      intro a2 cap2 w2 hm hb2 aa
      have hbx2 : Has w2 (w.heap.size + 3) (.cells #[.slice a bs.length cap] 22 (0, 0)) := hbd.later hb2
      have hbW : Below W.heap.size W w2 := (Below.refl _ W).drew.trans hb2
      refine ⟨rfl, ?_, ⟨a2, _, cap2, ?_, hm.cap, Or.inr ⟨by omega, ?_⟩⟩, ?_, ?_, ?_⟩
      · refine (Up.of_below hbW).trans ⟨rfl, rfl, rfl, by simp [World.setCell], fun k hk _ => Below.heap_setCell _ _ _ _ (by show k ≠ w.heap.size + 3; omega)⟩
      · rw [hbx]; exact hbx2.setSelf _
      · exact (hm.weaken (by omega)).set (by omega) _
      · exact (h0.later hbW).set (by show _ ≠ w.heap.size + 3; omega) _
      · exact (h1.later hbW).set (by show _ ≠ w.heap.size + 3; omega) _
      · have hBB : Below w.heap.size w w2 := hB.trans (hbW.mono hB.size)
        exact hBB.trans ⟨rfl, rfl, rfl, by simp [World.setCell], fun k hk => Below.heap_setCell _ _ _ _ (by show k ≠ w.heap.size + 3; omega)⟩
    have hw2f : Hid (∀ w2, Below W.heap.size W.drew w2 → w2.cell? ⟨H, o + p.1, none⟩ = some (.int .i64 (v p.1 : Int)) ∧ w2.cell? ⟨w.heap.size + 3, 0, none⟩ = some (.slice a bs.length cap) ∧ w2.frozen? ⟨w.heap.size + 3, 0, none⟩ = false) := by
      intro w2 hb2
      exact ⟨(hb2.cell (p := ⟨H, o + p.1, none⟩) (Nat.lt_of_lt_of_le hH hB.size)).trans hcHd, (hbd.later hb2).one⟩
    obtain ⟨wd, hwd⟩ : ∃ wd, wd = p.2.toNat := ⟨_, rfl⟩
    rw [← hwd] at HP HE ⊢
    obtain ⟨p1, hp1⟩ : ∃ p1, p1 = p.1 := ⟨_, rfl⟩
    obtain ⟨q2, hq2⟩ : ∃ q2, q2 = p.2 := ⟨_, rfl⟩
    rw [← hp1] at HP HE hcHd hw2f ⊢
    rw [← hq2] at HP ⊢
    generalize bs.length = bl at *
    have hmx : Try.prog.follows .mixedOrders = true := by kernel_rfl
    clear hb h0 h1 hB hp hpm hp2 hfit hlen hsucc hlen2 hsl hbox hcH hbd hwd hp1 hq2 HSEQ HV HC I0 hcap
    gi_wp2
    refine Nr.region_round_held (S := fun w' => w'.cell? ⟨H, o + p1, none⟩ = some (.int .i64 (v p1 : Int))) hmx (by kernel_rfl) hcHd (fun _ => ?_)
    change wpAnyH _ _ _ _ _ 11 (Array.replicate 11 false) _ _
    refine wpAnyH_take (i := 0) (v := ?_) rfl (by kernel_rfl) (by kernel_rfl) (by kernel_rfl) (fun _ _ _ h => h) (Or.inl ⟨rfl, ?hy0⟩) (by first | exact hcHd | exact hSb) ?_
    case hy0 => intro w' hw'; clear hw'; go_simp; first | done | rfl
    try simp only [Act.put, List.getElem_toArray, List.getElem_cons_zero, List.setIfInBounds_toArray, List.set_cons_zero, List.set_cons_succ]
    refine wpAnyH_take (i := 2) (v := ?_) rfl (by kernel_rfl) (by kernel_rfl) (by kernel_rfl) (fun _ _ _ h => h) (Or.inl ⟨rfl, ?hy2⟩) (by first | exact hcHd | exact hSb) ?_
    case hy2 => intro w' hw'; clear hw'; go_simp; first | done | rfl
    try simp only [Act.put, List.getElem_toArray, List.getElem_cons_zero, List.getElem_cons_succ, List.setIfInBounds_toArray, List.set_cons_zero, List.set_cons_succ]
    refine wpAnyH_take (i := 3) (v := ?_) rfl (by kernel_rfl) (by kernel_rfl) (by kernel_rfl) (fun _ _ _ h => h) (Or.inl ⟨rfl, ?hy3⟩) (by first | exact hcHd | exact hSb) ?_
    case hy3 => intro w' hw'; clear hw'; go_simp; first | done | rfl
    try simp only [Act.put, List.getElem_toArray, List.getElem_cons_zero, List.getElem_cons_succ, List.setIfInBounds_toArray, List.set_cons_zero, List.set_cons_succ]
    refine wpAnyH_take (i := 4) (v := ?_) rfl (by kernel_rfl) (by kernel_rfl) (by kernel_rfl) (fun _ _ _ h => h) (Or.inl ⟨rfl, ?hy4⟩) (by first | exact hcHd | exact hSb) ?_
    case hy4 => intro w' hw'; have hw2' := hw'; clear hw'; go_simp; first | done | rfl
    try simp only [Act.put, List.getElem_toArray, List.getElem_cons_zero, List.getElem_cons_succ, List.setIfInBounds_toArray, List.set_cons_zero, List.set_cons_succ]
    refine wpAnyH_ready (rs := [1]) (by kernel_rfl) (by simp) ?_
    refine AllReadyH.cons rfl (fun K hK => ?_) AllReadyH.nil
    go_simp
    refine hK.out _ _ hcHd (fun _ => ?_)
    clear hK K
    try simp only [Act.put, List.getElem_toArray, List.getElem_cons_zero, List.getElem_cons_succ, List.setIfInBounds_toArray, List.set_cons_zero, List.set_cons_succ]
    refine wpAnyH_ready (rs := [5]) (by kernel_rfl) (by simp) ?_
    refine AllReadyH.cons rfl (fun K hK => ?_) AllReadyH.nil
    go_simp
    refine HP.out.mono ?_
    rintro e w2 ⟨a2, cap2, rfl, hm2, hb2⟩
    obtain ⟨hSb, hxb, hfb⟩ := hw2f.out w2 hb2
    have HF := Lib.hid (HE.out a2 cap2 w2 hm2 hb2)
    clear hm2 hb2 HE HP hw2f
    dsimp only
    refine hK.out _ _ hSb (fun _ => ?_)
    clear hK K
    try simp only [Act.put, List.getElem_toArray, List.getElem_cons_zero, List.getElem_cons_succ, List.setIfInBounds_toArray, List.set_cons_zero, List.set_cons_succ]
    refine wpAnyH_take (i := 6) (v := ?_) rfl (by kernel_rfl) (by kernel_rfl) (by kernel_rfl) (fun _ _ _ h => h) (Or.inl ⟨rfl, ?hy6⟩) (by first | exact hcHd | exact hSb) ?_
    case hy6 => intro w' hw'; clear hw'; go_simp; first | done | rfl
    try simp only [Act.put, List.getElem_toArray, List.getElem_cons_zero, List.getElem_cons_succ, List.setIfInBounds_toArray, List.set_cons_zero, List.set_cons_succ]
    refine wpAnyH_take (i := 7) (v := ?_) rfl (by kernel_rfl) (by kernel_rfl) (by kernel_rfl) (fun _ _ _ h => h) (Or.inl ⟨rfl, ?hy7⟩) (by first | exact hcHd | exact hSb) ?_
    case hy7 => intro w' hw'; clear hw'; go_simp; first | done | rfl
    try simp only [Act.put, List.getElem_toArray, List.getElem_cons_zero, List.getElem_cons_succ, List.setIfInBounds_toArray, List.set_cons_zero, List.set_cons_succ]
    refine wpAnyH_take (i := 8) (v := ?_) rfl (by kernel_rfl) (by kernel_rfl) (by kernel_rfl) (fun _ _ _ h => h) (Or.inl ⟨rfl, ?hy8⟩) hSb ?_
    case hy8 => intro w' hw'; clear hw'; go_simp; first | done | rfl
    try simp only [Act.put, List.getElem_toArray, List.getElem_cons_zero, List.getElem_cons_succ, List.setIfInBounds_toArray, List.set_cons_zero, List.set_cons_succ]
    have hSc : (w2.setCell ⟨w.heap.size + 3, 0, none⟩ (.slice a2 (bl + wd) cap2)).cell? ⟨H, o + p1, none⟩ = some (.int .i64 (v p1 : Int)) := by
      rw [cell_of_block (Below.heap_setCell _ _ _ _ (by show H ≠ w.heap.size + 3; omega)) (o + p1)]
      exact hSb
    refine wpAnyH_ready (rs := [9]) (by kernel_rfl) (by simp) ?_
    refine AllReadyH.cons rfl (fun K hK => ?_) AllReadyH.nil
    go_simp
    refine hK.out _ _ hSc (fun _ => ?_)
    clear hK K
    try simp only [Act.put, List.getElem_toArray, List.getElem_cons_zero, List.getElem_cons_succ, List.setIfInBounds_toArray, List.set_cons_zero, List.set_cons_succ]
    refine wpAnyH_take (i := 10) (v := ?_) rfl (by kernel_rfl) (by kernel_rfl) (by kernel_rfl) (fun _ _ _ h => h) (Or.inl ⟨rfl, ?hy10⟩) hSc ?_
    case hy10 => intro w' hw'; clear hw'; go_simp; first | done | rfl
    try simp only [Act.put, List.getElem_toArray, List.getElem_cons_zero, List.getElem_cons_succ, List.setIfInBounds_toArray, List.set_cons_zero, List.set_cons_succ]
    refine wpAnyH_done (by kernel_rfl) ?_ _
    refine Nr.NoBoth.normal ?_
    obtain ⟨w3, hw3⟩ : ∃ w3, w3 = w2.setCell ⟨w.heap.size + 3, 0, none⟩ (.slice a2 (bl + wd) cap2) := ⟨_, rfl⟩
    rw [← hw3] at HF ⊢
    clear hw3 hSc hSb hxb hfb
    gi_wp2
    exact HF.out _
  case done =>
    rintro W ⟨hb, h0, h1, hB⟩ hD
    rw [List.take_length] at hb
    obtain ⟨a, k, cap, hbox, hcap, hm⟩ := hb
    have hm : Mine W (w1.heap.size + 2) a k cap (mk ++ laid L v) := by
      rcases hm with ⟨e, _⟩ | ⟨_, hm⟩
      · omega
      · exact hm
    have hlen : (laid L v).length ≤ 64 := by
      have h1 := laid_le L v (fun q hq => by rcases (HV.out q hq).2 with ⟨h, _⟩ | ⟨h, _⟩ <;> omega)
      omega
    have hk := hm.2.1
    rw [List.length_append] at hk
    obtain ⟨g, rfl, hg1, hg2⟩ := hm.form (by omega)
    obtain ⟨i0, hi, hz0, hz1', hz2⟩ := info_parts Try.infoU8
    obtain ⟨g2, cap2, w2, hrun, ho2, hgr⟩ := run_append_str (P := Try.prog) (w := W) (w1.heap.size + 2) 22 9 22 5 i0 Try.underlying22 Try.underlying9 hi hz0 hz1' hz2 g cap k _ hm.1 S (by omega) (by omega)
    have hB2 : Below (w1.heap.size + 2) W w2 := below_grown (Below.refl _ W) hgr hg1 (by omega)
    have hbx : w1.heap.size - 1 = w.heap.size + 3 := by omega
    rw [hbx] at hbox
    have hcb := hbox.one.1
    have f0 : Has w2 w.heap.size (.cells #[.slice none 0 0] 22 (0, 0)) := h0.below hB2 (by omega)
    have f1 : Has w2 (w.heap.size + 1) (.cells #[.int .i64 0] 26 (0, 0)) := h1.below hB2 (by omega)
    have hD2 : Has w2 w1.heap.size (.deferred (some [])) := Has.below (w := W) hD hB2 (by omega)
    have hBw : Below w.heap.size w w2 := hB.trans (hB2.mono (by omega))
    have HM : Hid (Mine w2 (w.heap.size + 6) (some ⟨g2, 0, none⟩) (k + S.size) cap2 (mk ++ laid L v ++ sB S)) := by
      have h := ho2
      rw [← vb_append] at h
      have h2 : Mine w2 (w1.heap.size + 2) (some ⟨g2, 0, none⟩) (k + S.size) cap2 (mk ++ laid L v ++ sB S) := ⟨h, by rw [List.length_append, List.length_append, sB_length]; omega, fun x hx => by
        rcases List.mem_append.1 hx with hx | hx
        · exact hm.2.2 x hx
        · exact sB_byte S x hx⟩
      exact h2.weaken (by omega)
    have F0 := f0.one
    have F1 := f1.one
    obtain ⟨c0, d0⟩ := F0
    obtain ⟨c1, d1⟩ := F1
    have HD2 := Lib.hid hD2
    have HF0 := Lib.hid f0
    have HF1 := Lib.hid f1
    have HBw := Lib.hid hBw
    have HZ1 := Lib.hid hz1
    clear HSEQ HV HC I0 hm h0 h1 hB hD hbox hg1 hg2 ho2 hgr hB2 hbx f0 f1 hD2 hBw hlen hk hi hz0 hz1' hz2 hcap hz1
    gi_wp2_with (refine wpListIn_append_two rfl (.tmp 29) (.tmp 30) 22 9 rfl _ _ _ w2 rfl rfl hrun ?_)
    obtain ⟨w3, hw3⟩ : ∃ w3, w3 = (w2.setCell ⟨w.heap.size, 0, none⟩ (.slice (some ⟨g2, 0, none⟩) (k + S.size) cap2)).setCell ⟨w.heap.size + 1, 0, none⟩ (.int .i64 0) := ⟨_, rfl⟩
    rw [← hw3]
    have r0 : Has w3 w.heap.size (.cells #[.slice (some ⟨g2, 0, none⟩) (k + S.size) cap2] 22 (0, 0)) := by rw [hw3]; exact (HF0.out.setSelf _).set (by show w.heap.size ≠ w.heap.size + 1; omega) _
    have r1 : Has w3 (w.heap.size + 1) (.cells #[.int .i64 0] 26 (0, 0)) := by rw [hw3]; exact (HF1.out.set (by show w.heap.size + 1 ≠ w.heap.size; omega) _).setSelf _
    have r2 : w3.heap[w1.heap.size]? = some (.deferred (some [])) := by
      have hne := HZ1.out
      rw [hw3]; exact (HD2.out.set (by show w1.heap.size ≠ w.heap.size; omega) _).set (by show w1.heap.size ≠ w.heap.size + 1; omega) _
    have r3 : Mine w3 (w.heap.size + 6) (some ⟨g2, 0, none⟩) (k + S.size) cap2 (mk ++ laid L v ++ sB S) := by rw [hw3]; exact (HM.out.set (by omega) _).set (by omega) _
    have r4 : Below w.heap.size w w3 := by
      rw [hw3]
      exact HBw.out.trans ⟨rfl, rfl, rfl, by simp [World.setCell], fun k hk => (Below.heap_setCell _ _ _ _ (by show k ≠ w.heap.size + 1; omega)).trans (Below.heap_setCell _ _ _ _ (by show k ≠ w.heap.size; omega))⟩
    clear hw3
    refine ⟨by simp, .inl ⟨_, _, rfl, run_takeDeferred r2, ?_⟩⟩
    have hz := HZ1.out
    have q0 : Has (w3.putObj w1.heap.size (.deferred none)) w.heap.size (.cells #[.slice (some ⟨g2, 0, none⟩) (k + S.size) cap2] 22 (0, 0)) := (Lo.putObj w3 w1.heap.size _).has r0 (Or.inl (by omega))
    have q1 : Has (w3.putObj w1.heap.size (.deferred none)) (w.heap.size + 1) (.cells #[.int .i64 0] 26 (0, 0)) := (Lo.putObj w3 w1.heap.size _).has r1 (Or.inl (by omega))
    have q3 : Mine (w3.putObj w1.heap.size (.deferred none)) w.heap.size (some ⟨g2, 0, none⟩) (k + S.size) cap2 (mk ++ laid L v ++ sB S) := (r3.lo (Lo.putObj w3 w1.heap.size _) (by omega)).weaken (by omega)
    have q4 : Below w.heap.size w (w3.putObj w1.heap.size (.deferred none)) := (Lo.putObj w3 w1.heap.size _).below r4 (by omega) r4.size
    generalize w3.putObj w1.heap.size (.deferred none) = w4 at *
    refine ⟨.tuple #[.slice (some ⟨g2, 0, none⟩) (k + S.size) cap2, .int .i64 0], ?_, _, _, _, rfl, q3, q4⟩
    have e0 := q0.one.1
    have e1 := q1.one.1
    rw [results_cells2 rfl]
    clear q0 q1 q3 q4 r0 r1 r2 r3 r4 hz
    go_simp
end Go.Proofs.Ytillckjohlbaiaa
