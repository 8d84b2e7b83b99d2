/- Contract of sector.settle. -/
import Derived.Test.YthbiibinmofmfaaEkp

namespace Go.Proofs.Ythbiibinmofmfaa
set_option maxRecDepth 100000
open Go.RowKit Go.Shelf

attribute [local go_sem] Oper.semAt_some

theorem wpListIn_runR {F : Fence} {n : Nat} {P : Program} {ops : Array Oper} {rest : List Oper} {o : Oper} {a : Act} {w w' : World} {v : Value} {Q : Exit → Act → World → Prop} (hg : o.guard = none) (hd : ∀ c, o.op ≠ .defer c) (hab : o.about P w a.eval = none) (h : (execOp a.eval o).run P w = .ok (.value v) w') (hn : wpListIn F n P ops Q rest (a.put o.dst v) w') : wpListIn F n P ops Q (o :: rest) a w :=
  wpListIn_plain hg fun K hK => by
    refine ⟨fun f hf => (by rw [hab] at hf; cases hf), ?_⟩
    rw [Oper.semAt_eq _ _ _ hd, h]
    exact hK _ _ hn

theorem kept_stops (n : Nat) (hn : 2 ≤ n) (B1 B2 b : Nat) (lo ksv : Value) (ls : List (Nat × List Nat)) (ks : List Int) (hls : ∀ p ∈ ls, p.1 < 8192 ∧ Row p.2) (hlen : ls.length ≤ 1000000) (w : World)
    (hB1 : w.cell? ⟨B1, 0, none⟩ = some (.pointer (some ⟨b, 0, none⟩))) (hB2 : w.cell? ⟨B2, 0, none⟩ = some ksv) (hks : Ks w ksv ks) (hb : w.cell? ⟨b, 2, none⟩ = some lo) (ho : w.ownsRow 0 116 513 lo ls.length (vws ls)) :
    SeqStopsK Fence.wide n Try.prog 71 #[.pointer (some ⟨B1, 0, none⟩), .pointer (some ⟨B2, 0, none⟩)] (fun x : Tw => #[.agg (vw x.1.1.1 x.1.1.2).toArray, .int .i64 (x.1.2 : Int)]) KeepA (fun ys => TellsK ls ks ls.length ys) (fun _ => True) ls.length w := fun l J Jx W hW hJ _ hY h0 => by
  have hk := keepA_below hW
  exact kept1_in n hn l B1 B2 b lo ksv ls ks hls hlen J Jx hY W hJ (hk.cell hB1) (hk.cell hB2) (hks.keep hk) (hk.cell hb) (own_same ho (fun g hg => hW.block g (ho.lt g hg).2)) h0

/-- Between two rounds: the map tells what was laid; of what was there it alone was turned. -/
def SetI (w3 : World) (bm : Nat) (s : Nat → List Nat) (pre : List Tw) (W : World) : Prop :=
  (∃ ns fs, Mp W bm ns fs ∧ Sure fs (Ek.lays s (pre.map Subtype.val))) ∧ Only bm w3 W
theorem setI_own {w3 : World} {bm : Nat} {s : Nat → List Nat} (hb : bm < w3.heap.size) : OwnFrom w3.heap.size (SetI w3 bm s) := by
  rintro pre W W' row ⟨⟨ns, fs, hm, hs⟩, ho⟩ hg hr
  have hne : ∀ k, k < w3.heap.size → some k ≠ row := fun k hk e => by have := (hr k e.symm).1; omega
  exact ⟨⟨ns, fs, hm.grown hg (hne bm hb), hs⟩, ⟨hg.os.trans ho.os, hg.tape.trans ho.tape, hg.output.trans ho.output, Nat.le_trans ho.size hg.size, fun k hk hn => (hg.block k (Nat.lt_of_lt_of_le hk ho.size) (hne k hk)).trans (ho.block k hk hn)⟩⟩
theorem setI_below {w3 : World} {bm : Nat} {s : Nat → List Nat} {pre : List Tw} {W W' : World} (h : SetI w3 bm s pre W) (hb : Below W.heap.size W W') : SetI w3 bm s pre W' := by
  obtain ⟨⟨ns, fs, hm, hs⟩, ho⟩ := h
  exact ⟨⟨ns, fs, hm.later hb, hs⟩, ⟨hb.os.trans ho.os, hb.tape.trans ho.tape, hb.output.trans ho.output, Nat.le_trans ho.size hb.size, fun k hk hn => (hb.block k (Nat.lt_of_lt_of_le hk ho.size)).trans (ho.block k hk hn)⟩⟩

theorem lays_row {s : Nat → List Nat} (hs : ∀ i, Row (s i)) (pre : List Tw) : ∀ i, Row (Ek.lays s (pre.map Subtype.val) i) := by
  induction pre generalizing s with
  | nil => exact hs
  | cons x l ih => exact ih (Ek.lay_row hs x.2.1 x.2.2.2)

/-- What lies there behind settle, its loop's record shut. -/
theorem settle_end {w w3 W w5 : World} {S : Nat → Prop} {b bm D : Nat} {d : Ek.Dk} {ks : List Int} {ys : List Tw} {ns2 : Nat} {fs2 : Nat → Option Value} (hok : Ek.Ok d) (s1 : S b) (s2 : S bm) (hb3 : Below w.heap.size w w3) (hbm : bm < w.heap.size) (hbw : b < w.heap.size)
    (hT : TellsK d.loose ks d.loose.length ys) (hon : Only bm w3 W) (hm2 : Mp W bm ns2 fs2) (hfs2 : Sure fs2 (Ek.lays d.sure (ys.map Subtype.val))) (hbne : b ≠ bm) (hD : w3.heap.size ≤ D) (hK : W.heap[D]? = some (.deferred (some [])))
    (h1 : Has w5 b (.cells #[.int .i64 (d.n : Int), .map (some bm), .slice none 0 0, .map (some W.heap.size), .int .i64 d.left, .bool d.dark] 62 (0, 0)))
    (h2 : Mp w5 W.heap.size 0 (fun _ => none)) (h3 : ∀ k, k < W.heap.size → k ≠ b → w5.heap[k]? = W.heap[k]?) (h4 : w5.os = W.os ∧ w5.tape = W.tape ∧ w5.output = W.output) :
    w5.heap[D]? = some (.deferred (some [])) ∧ DP w S b (Ek.settled d (Ek.nth ks)) (.tuple #[]) (.returned (.tuple #[])) (w5.putObj D (.deferred none)) := by
  have hDW : D < W.heap.size := (Array.getElem?_eq_some_iff.1 hK).1
  have hs := hb3.size
  have hs2 := hon.size
  have hs5 := h2.lt
  have hput : ∀ k, k ≠ D → (w5.putObj D (.deferred none)).heap[k]? = w5.heap[k]? := fun k hk => World.putObj_heap_other (by omega)
  have hsz : (w5.putObj D (.deferred none)).heap.size = w5.heap.size := by simp [World.putObj]
  refine ⟨(h3 D hDW (by omega)).trans hK, rfl, fun k => S k ∨ k = W.heap.size, ⟨bm, W.heap.size, ns2, .slice none 0 0, fs2, (hput b (by omega)).trans h1, (hm2.same (h3 bm (by omega) (Ne.symm hbne))).same (hput bm (by omega)), ?_, h2.same (hput _ (by omega)), ⟨rfl, Or.inl ⟨rfl, rfl⟩⟩, Or.inl s1, Or.inl s2, Or.inr rfl, by omega, fun g hg => (by cases hg), Nat.zero_le _, Ek.settled_ok hok _⟩, ?_, ?_⟩
  · rw [show ys.map Subtype.val = _ from hT, Ek.lays_told] at hfs2
    exact hfs2
  · obtain ⟨p1, p2, p3⟩ := h4
    refine ⟨p1.trans (hon.os.trans hb3.os), p2.trans (hon.tape.trans hb3.tape), p3.trans (hon.output.trans hb3.output), by rw [hsz]; omega, fun k hk hn => ?_⟩
    rw [hput k (by omega), h3 k (by omega) (by rintro rfl; exact hn s1), hon.block k (by omega) (by rintro rfl; exact hn s2), hb3.block k hk]
  · rintro k (hk | rfl)
    · exact Or.inl hk
    · exact Or.inr ⟨by omega, by rw [hsz]; exact hs5⟩

set_option maxRecDepth 100000 in
set_option maxHeartbeats 4000000 in
theorem settle_in (n : Nat) (hn : 4 ≤ n) (w : World) (S : Nat → Prop) (b : Nat) (d : Ek.Dk) (ksv : Value) (ks : List Int) (h : Dsk w S b d) (hks : Ks w ksv ks) :
    CallsIn Fence.wide n Try.prog 37 #[.pointer (some ⟨b, 0, none⟩), ksv] w (DP w S b (Ek.settled d (Ek.nth ks)) (.tuple #[])) := by
  have h1 : 1 ≤ n := by omega
  have hok := h.ok
  obtain ⟨bm, bl, ns, lo, fs, hh, hm, hfs, hl, ho, s1, s2, s3, hne, s4, hu, _⟩ := h
  obtain ⟨ka, kcap, rfl, hkx⟩ := hks
  have hks : Ks w (.slice ka ks.length kcap) ks := ⟨ka, kcap, rfl, hkx⟩
  clear hkx
  obtain ⟨M, hM⟩ : ∃ M, M = ks.length := ⟨_, rfl⟩
  rw [← hM] at hks ⊢
  clear hM
  refine callsIn_of_wp_marks Try.func37 rfl trivial ?_ rfl
  simp only [Try.ntmps37, List.size_toArray, List.length_cons, List.length_nil, Nat.reduceAdd, Nat.reduceSub, Array.replicate_succ, Array.replicate_zero, List.push_toArray, List.append_toArray, List.nil_append, List.cons_append]
  gi_wp2_with (refine ⟨trivial, ?_⟩; gi_at_call 62; refine (kept_in (n - 1) _ _ _ _ _).mono ?_; rintro e w' ⟨rfl, rfl⟩)
  obtain ⟨w3, hw3⟩ : ∃ w3, w3 = (((w.alloc (.cells #[.pointer (some ⟨b, 0, none⟩)] 25)).alloc (.cells #[.pointer (some ⟨b, 0, none⟩)] 25)).alloc (.cells #[.slice ka M kcap] 36)) := ⟨_, rfl⟩
  have b0 : Has w3 w.heap.size (.cells #[.pointer (some ⟨b, 0, none⟩)] 25 (0, 0)) := by rw [hw3]; exact ((Has.new w _).alloc _).alloc _
  have b1 : Has w3 (w.heap.size + 1) (.cells #[.pointer (some ⟨b, 0, none⟩)] 25 (0, 0)) := by
    rw [hw3]
    have := (Has.new (w.alloc (.cells #[.pointer (some ⟨b, 0, none⟩)] 25)) (.cells #[.pointer (some ⟨b, 0, none⟩)] 25)).alloc (.cells #[.slice ka M kcap] 36)
    simpa using this
  have b2 : Has w3 (w.heap.size + 1 + 1) (.cells #[.slice ka M kcap] 36 (0, 0)) := by
    rw [hw3]
    have := Has.new ((w.alloc (.cells #[.pointer (some ⟨b, 0, none⟩)] 25)).alloc (.cells #[.pointer (some ⟨b, 0, none⟩)] 25)) (.cells #[.slice ka M kcap] 36)
    simpa using this
  have hb3 : Below w.heap.size w w3 := by rw [hw3]; exact below3 w _ _ _
  have hs3 : w3.heap.size = w.heap.size + 3 := by rw [hw3]; simp
  rw [← hw3]
  clear hw3
  have hbm := hm.lt
  have hk3 := keepA_below hb3
  have hh3 : Has w3 b _ := hh.later hb3
  have ho3 := own_same ho (w' := w3) (fun g hg => hb3.block g (ho.lt g hg).2)
  have hbne : b ≠ bm := (hm.ne_has hh).symm
  refine wpIn_rangeFunc_ownH rfl h1 (gf := 71) (lb := #[.pointer (some ⟨w.heap.size + 1, 0, none⟩), .pointer (some ⟨w.heap.size + 1 + 1, 0, none⟩)]) rfl trivial (enters_of Try.func71 (by kernel_rfl) rfl)
    (kept_stops (n - 1) (by omega) (w.heap.size + 1) (w.heap.size + 1 + 1) b lo (.slice ka M kcap) d.loose ks (fun p hp => ⟨Nat.lt_of_lt_of_le (hok.loose p hp).1 hok.hi, (hok.loose p hp).2⟩) (Nat.le_trans hok.count hok.used) w3 (by rw [b1.cell]; rfl) (by rw [b2.cell]; rfl) (hks.keep hk3) (by rw [hh3.cell]; rfl) ho3) keepA_t keepA_b (Below.refl _ _) (fun _ => rfl)
    (SetI w3 bm d.sure) (fun _ _ _ => False) (setI_own (by omega)) (fun _ _ _ _ _ hs _ _ => hs) ⟨⟨ns, fs, hm.later hb3, hfs⟩, Only.refl _ _⟩
    (fun x a' W => ∃ Bx, w3.heap.size ≤ Bx ∧ Has W Bx (.cells (vw x.1.1.1 x.1.1.2).toArray 116 (0, 0)) ∧ a' = { tmps := #[.pointer (some ⟨b, 0, none⟩), .slice ka M kcap, .pointer (some ⟨w.heap.size, 0, none⟩), undef, .pointer (some ⟨Bx, 0, none⟩), .int .i64 (x.1.2 : Int), .pointer (some ⟨b, 0, none⟩), .slice ka M kcap, .func (.func 71) #[] #[.pointer (some ⟨w.heap.size + 1, 0, none⟩), .pointer (some ⟨w.heap.size + 1 + 1, 0, none⟩)], .agg (vw x.1.1.1 x.1.1.2).toArray, .int .i64 (x.1.2 : Int), undef, undef, undef, undef, undef, undef, undef, undef, undef, undef, undef], defers := [] }) ?hAx ?assign ?body ?done ?stop
  case hAx =>
    rintro x a' _ W W' row ⟨Bx, h1, h2, h3⟩ hg hr
    exact ⟨Bx, h1, h2.grown hg (fun e => by
      obtain ⟨_, o, ho, hc⟩ := hr Bx e.symm
      rw [show W.heap[Bx]? = _ from h2] at ho
      cases ho; cases hc), h3⟩
  case assign =>
    rintro l pre x W K hi hK
    have hrl := x.2.1.1
    have SC := write_cells W 0 x.1.1.1 zrow x.1.1.2 zrow_length hrl
    have hvl : (vw x.1.1.1 x.1.1.2).length = 513 := vw_length _ _ hrl
    have hz := write_zero
    have hsz : w3.heap.size ≤ W.heap.size := hi.2.size
    have HI := Lib.hid (setI_below hi (below1 W (.cells (vw x.1.1.1 x.1.1.2).toArray 116)))
    clear hi
    gi_wp2
    exact hK _ _ ((KeepsOthers.alloc _ _).from _) (keepA_below (below1 _ _)) HI.out ⟨W.heap.size, hsz, Has.new _ _, rfl⟩
  case body =>
    rintro l pre x a' W hl ⟨r, hr⟩ ⟨⟨ns2, fs2, hm2, hfs2⟩, hon⟩ ⟨Bx, hBx, hx, rfl⟩ hlt
    have hd1 : 1 ≤ n - 1 - 1 := by omega
    have hx2 := x.2
    have hB0 : W.cell? ⟨w.heap.size, 0, none⟩ = some (.pointer (some ⟨b, 0, none⟩)) := by rw [(b0.only hon (by omega)).cell]; rfl
    have hc1 : W.cell? ⟨b, 1, none⟩ = some (.map (some bm)) := by rw [(hh3.only hon hbne).cell]; rfl
    have hrow : ∀ i, Row (Ek.lays d.sure (pre.map Subtype.val) i) := lays_row hok.sure pre
    have HLA := Lib.hid (lay_any W b bm ns2 fs2 _ x.1.1.1 x.1.2 x.1.1.2 hc1 hm2 hfs2 hrow hx2.1 (by omega) hx2.2.2)
    have HR : Hid (W.rangeAt Bx 0 (vw x.1.1.1 x.1.1.2)) := fun j v hv => by rw [hx.cell, List.getElem?_toArray, Nat.zero_add]; exact hv
    have HRL := Lib.hid hx2.1.1
    have HON := Lib.hid hon
    have HM2 := Lib.hid hm2
    have HS3 := Lib.hid (Nat.lt_of_lt_of_le hbm hb3.size)
    clear hrow hx2 hfs2 hm2 hon hc1 hx hBx hlt
    gi_wp2_with (first | (refine wpListIn_runR rfl (fun c h => by cases h) rfl (exec_load_write (.tmp 4) rfl Bx 0 rfl _ _ HR.out HRL.out) ?_) | (refine ⟨trivial, ?_⟩; gi_at_call 63; refine (CallsIn.inRound l (callsIn_wide.2 HLA.out)).mono ?_; rintro e w' ⟨rfl, ns3, fs3, hm3, hfs3, hon3⟩))
    have hlt := HS3.out
    refine ⟨⟨hon3.size, fun k o hk h _ => (hon3.block k (Array.getElem?_eq_some_iff.1 h).1 (by omega)).trans h⟩, keepA_only hon3 HM2.out, ⟨⟨ns3, fs3, hm3, ?_⟩, ?_⟩⟩
    · rw [List.map_append, List.map_cons, List.map_nil, Ek.lays_snoc]; exact hfs3
    · have ho := HON.out
      exact ⟨hon3.os.trans ho.os, hon3.tape.trans ho.tape, hon3.output.trans ho.output, Nat.le_trans ho.size hon3.size, fun k hk hn => (hon3.block k (Nat.lt_of_lt_of_le hk ho.size) hn).trans (ho.block k hk hn)⟩
  case done =>
    rintro D ys W hD hT ⟨⟨ns2, fs2, hm2, hfs2⟩, hon⟩ hK
    have hB0 : W.cell? ⟨w.heap.size, 0, none⟩ = some (.pointer (some ⟨b, 0, none⟩)) := by rw [(b0.only hon (by omega)).cell]; rfl
    have hhW := hh3.only hon hbne
    have hne0 : b ≠ w.heap.size := by have := hh.lt; omega
    have f2 := hhW.free 2
    have f3 := hhW.free 3
    have c2 : W.cell? ⟨b, 2, none⟩ = some lo := by rw [hhW.cell]; rfl
    have c3 : W.cell? ⟨b, 3, none⟩ = some (.map (some bl)) := by rw [hhW.cell]; rfl
    obtain ⟨la, lcap, rfl, _⟩ := own_len ho
    have hbw := hh.lt
    have HEND : Hid (∀ w5, (w5 = (((W.setCell ⟨b, 2, none⟩ (.slice none 0 0)).alloc (.map #[] 0)).setCell ⟨b, 3, none⟩ (.map (some W.heap.size))).drew ∨ w5 = (((W.alloc (.map #[] 0)).setCell ⟨b, 2, none⟩ (.slice none 0 0)).setCell ⟨b, 3, none⟩ (.map (some W.heap.size))).drew) →
        w5.heap[D]? = some (.deferred (some [])) ∧ DP w S b (Ek.settled d (Ek.nth ks)) (.tuple #[]) (.returned (.tuple #[])) (w5.putObj D (.deferred none))) := by
      have hbW : b < W.heap.size := hhW.lt
      rintro w5 (rfl | rfl)
      · refine settle_end hok s1 s2 hb3 hbm hbw hT hon hm2 hfs2 hbne hD hK ?_ ?_ ?_ ⟨rfl, rfl, rfl⟩
        · exact ((hhW.setSelf (i := 2) (.slice none 0 0)).alloc (.map #[] 0)).setSelf (i := 3) (.map (some W.heap.size))
        · have := (Mp.new (W.setCell ⟨b, 2, none⟩ (.slice none 0 0))).set (a := ⟨b, 3, none⟩) (by simp; omega) (.map (some W.heap.size))
          have h9 : Mp (((W.setCell ⟨b, 2, none⟩ (.slice none 0 0)).alloc (.map #[] 0)).setCell ⟨b, 3, none⟩ (.map (some W.heap.size))) W.heap.size 0 (fun _ => none) := by simpa using this
          exact h9
        · exact fun k hk hn => (Below.heap_setCell _ ⟨b, 3, none⟩ _ k hn).trans ((Below.heap_alloc _ _ k (by simpa using hk)).trans (Below.heap_setCell W ⟨b, 2, none⟩ _ k hn))
      · refine settle_end hok s1 s2 hb3 hbm hbw hT hon hm2 hfs2 hbne hD hK ?_ ?_ ?_ ⟨rfl, rfl, rfl⟩
        · exact ((hhW.alloc (.map #[] 0)).setSelf (i := 2) (.slice none 0 0)).setSelf (i := 3) (.map (some W.heap.size))
        · exact ((Mp.new W).set (a := ⟨b, 2, none⟩) (by simp; omega) _).set (a := ⟨b, 3, none⟩) (by simp; omega) _
        · exact fun k hk hn => (Below.heap_setCell _ ⟨b, 3, none⟩ _ k hn).trans ((Below.heap_setCell _ ⟨b, 2, none⟩ _ k hn).trans (Below.heap_alloc _ _ k hk))
    have hmx : Try.prog.follows .mixedOrders = true := by kernel_rfl
    clear hok hbw hh hm hfs hl ho s1 s2 s3 hne s4 hu b0 b1 b2 hb3 hs3 hbm hk3 hh3 ho3 hbne hT hon hm2 hfs2 hhW hks hK hD
    have hmm := @run_makeMap Try.prog
    have hB0' : (W.alloc (.map #[] 0)).cell? ⟨w.heap.size, 0, none⟩ = some (.pointer (some ⟨b, 0, none⟩)) := by rw [World.cell?_alloc_lt _ _ _ (World.block_lt_of_cell? W _ hB0)]; exact hB0
    have c2' : (W.alloc (.map #[] 0)).cell? ⟨b, 2, none⟩ = some (.slice la d.loose.length lcap) := by rw [World.cell?_alloc_lt _ _ _ (World.block_lt_of_cell? W _ c2)]; exact c2
    have c3' : (W.alloc (.map #[] 0)).cell? ⟨b, 3, none⟩ = some (.map (some bl)) := by rw [World.cell?_alloc_lt _ _ _ (World.block_lt_of_cell? W _ c3)]; exact c3
    have f2' : (W.alloc (.map #[] 0)).frozen? ⟨b, 2, none⟩ = false := by rw [World.frozen?_alloc_past _ _ _ (World.block_lt_of_cell? W _ c2)]; exact f2
    have f3' : (W.alloc (.map #[] 0)).frozen? ⟨b, 3, none⟩ = false := by rw [World.frozen?_alloc_past _ _ _ (World.block_lt_of_cell? W _ c3)]; exact f3
    have hx3 : (W.setCell ⟨b, 2, none⟩ (.slice none 0 0)).cell? ⟨b, 3, none⟩ = some (.map (some bl)) := by rw [World.cell?_setCell_other _ _ _ _ (by simp)]; exact c3
    have hx0 : (W.setCell ⟨b, 2, none⟩ (.slice none 0 0)).cell? ⟨w.heap.size, 0, none⟩ = some (.pointer (some ⟨b, 0, none⟩)) := by rw [World.cell?_setCell_other _ _ _ _ (by simp)]; exact hB0
    have c3'' : ((W.setCell ⟨b, 2, none⟩ (.slice none 0 0)).alloc (.map #[] 0)).cell? ⟨b, 3, none⟩ = some (.map (some bl)) := by rw [World.cell?_alloc_lt _ _ _ (World.block_lt_of_cell? _ _ hx3)]; exact hx3
    have f3'' : ((W.setCell ⟨b, 2, none⟩ (.slice none 0 0)).alloc (.map #[] 0)).frozen? ⟨b, 3, none⟩ = false := by rw [World.frozen?_alloc_past _ _ _ (World.block_lt_of_cell? _ _ hx3), World.frozen?_setCell]; exact f3
    have hB0'' : ((W.setCell ⟨b, 2, none⟩ (.slice none 0 0)).alloc (.map #[] 0)).cell? ⟨w.heap.size, 0, none⟩ = some (.pointer (some ⟨b, 0, none⟩)) := by rw [World.cell?_alloc_lt _ _ _ (World.block_lt_of_cell? _ _ hx0)]; exact hx0
    clear hx3 hx0
    gi_wp2
    refine Code.wpIn_mono (Q := NoPanic _) NoPanic.imp ?_
    refine wpIn_region_any hmx ?_
    change wpAnyIn _ _ _ _ _ _ 9 (Array.replicate 9 false) _ (World.drew _)
    refine wpAnyIn_ready (rs := [0, 1, 2]) (by kernel_rfl) (by simp) ?_
    refine AllReadyIn.cons rfl (fun K hK => ?_) (AllReadyIn.cons rfl (fun K hK => ?_) (AllReadyIn.cons rfl (fun K hK => ?_) AllReadyIn.nil))
    · go_simp
      refine hK _ _ ?_
      clear hK K
      refine wpAnyIn_take (i := 3) (v := ?_) rfl rfl (by kernel_rfl) (by kernel_rfl) (by kernel_rfl) (fun _ _ _ h => h) ⟨Or.inl ⟨by rfl, ?hy1_3⟩, fun _ => rfl⟩ ?_
      case hy1_3 => intro w; go_simp; first | done | rfl
      simp only [Act.put, List.getElem_toArray, List.getElem_cons_zero, List.getElem_cons_succ, List.setIfInBounds_toArray, List.set_cons_zero, List.set_cons_succ]
      refine wpAnyIn_take (i := 4) (v := ?_) rfl rfl (by kernel_rfl) (by kernel_rfl) (by kernel_rfl) (fun _ _ _ h => h) ⟨Or.inl ⟨by rfl, ?hy1_4⟩, fun _ => rfl⟩ ?_
      case hy1_4 => intro w; go_simp; first | done | rfl
      simp only [Act.put, List.getElem_toArray, List.getElem_cons_zero, List.getElem_cons_succ, List.setIfInBounds_toArray, List.set_cons_zero, List.set_cons_succ]
      refine wpAnyIn_ready (rs := [1, 2, 5]) (by kernel_rfl) (by simp) ?_
      refine AllReadyIn.cons rfl (fun K hK => ?_) (AllReadyIn.cons rfl (fun K hK => ?_) (AllReadyIn.cons rfl (fun K hK => ?_) AllReadyIn.nil))
      · go_simp
        refine hK _ _ ?_
        clear hK K
        refine wpAnyIn_ready (rs := [2, 5]) (by kernel_rfl) (by simp) ?_
        refine AllReadyIn.cons rfl (fun K hK => ?_) (AllReadyIn.cons rfl (fun K hK => ?_) AllReadyIn.nil)
        · go_simp
          refine hK _ _ ?_
          clear hK K
          refine wpAnyIn_ready (rs := [5]) (by kernel_rfl) (by simp) ?_
          refine AllReadyIn.cons rfl (fun K hK => ?_) AllReadyIn.nil
          go_simp
          refine hK _ _ ?_
          clear hK K
          refine wpAnyIn_ready (rs := [6]) (by kernel_rfl) (by simp) ?_
          refine AllReadyIn.cons rfl (fun K hK => ?_) AllReadyIn.nil
          go_simp
          refine hK _ _ ?_
          clear hK K
          refine wpAnyIn_take (i := 7) (v := ?_) rfl rfl (by kernel_rfl) (by kernel_rfl) (by kernel_rfl) (fun _ _ _ h => h) ⟨Or.inl ⟨by rfl, ?hy1_7⟩, fun _ => rfl⟩ ?_
          case hy1_7 => intro w; go_simp; first | done | rfl
          simp only [Act.put, List.getElem_toArray, List.getElem_cons_zero, List.getElem_cons_succ, List.setIfInBounds_toArray, List.set_cons_zero, List.set_cons_succ]
          refine wpAnyIn_ready (rs := [8]) (by kernel_rfl) (by simp) ?_
          refine AllReadyIn.cons rfl (fun K hK => ?_) AllReadyIn.nil
          go_simp
          refine hK _ _ ?_
          clear hK K
          refine wpAnyIn_done (by kernel_rfl) ?_ _
          have HQ := HEND.out _ (Or.inr rfl)
          gi_wp2
          exact ⟨by simp, .inl ⟨_, _, rfl, run_takeDeferred HQ.1, ⟨_, results_none rfl _ _ _, HQ.2⟩⟩⟩
        · go_simp
          refine hK _ _ ?_
          clear hK K
          refine wpAnyIn_ready (rs := [2]) (by kernel_rfl) (by simp) ?_
          refine AllReadyIn.cons rfl (fun K hK => ?_) AllReadyIn.nil
          go_simp
          refine hK _ _ ?_
          clear hK K
          refine wpAnyIn_ready (rs := [6]) (by kernel_rfl) (by simp) ?_
          refine AllReadyIn.cons rfl (fun K hK => ?_) AllReadyIn.nil
          go_simp
          refine hK _ _ ?_
          clear hK K
          refine wpAnyIn_take (i := 7) (v := ?_) rfl rfl (by kernel_rfl) (by kernel_rfl) (by kernel_rfl) (fun _ _ _ h => h) ⟨Or.inl ⟨by rfl, ?hy1_7⟩, fun _ => rfl⟩ ?_
          case hy1_7 => intro w; go_simp; first | done | rfl
          simp only [Act.put, List.getElem_toArray, List.getElem_cons_zero, List.getElem_cons_succ, List.setIfInBounds_toArray, List.set_cons_zero, List.set_cons_succ]
          refine wpAnyIn_ready (rs := [8]) (by kernel_rfl) (by simp) ?_
          refine AllReadyIn.cons rfl (fun K hK => ?_) AllReadyIn.nil
          go_simp
          refine hK _ _ ?_
          clear hK K
          refine wpAnyIn_done (by kernel_rfl) ?_ _
          have HQ := HEND.out _ (Or.inl rfl)
          gi_wp2
          exact ⟨by simp, .inl ⟨_, _, rfl, run_takeDeferred HQ.1, ⟨_, results_none rfl _ _ _, HQ.2⟩⟩⟩
      · go_simp
        refine hK _ _ ?_
        clear hK K
        refine wpAnyIn_ready (rs := [1, 5]) (by kernel_rfl) (by simp) ?_
        refine AllReadyIn.cons rfl (fun K hK => ?_) (AllReadyIn.cons rfl (fun K hK => ?_) AllReadyIn.nil)
        · go_simp
          refine hK _ _ ?_
          clear hK K
          refine wpAnyIn_ready (rs := [5]) (by kernel_rfl) (by simp) ?_
          refine AllReadyIn.cons rfl (fun K hK => ?_) AllReadyIn.nil
          go_simp
          refine hK _ _ ?_
          clear hK K
          refine wpAnyIn_ready (rs := [6]) (by kernel_rfl) (by simp) ?_
          refine AllReadyIn.cons rfl (fun K hK => ?_) AllReadyIn.nil
          go_simp
          refine hK _ _ ?_
          clear hK K
          refine wpAnyIn_take (i := 7) (v := ?_) rfl rfl (by kernel_rfl) (by kernel_rfl) (by kernel_rfl) (fun _ _ _ h => h) ⟨Or.inl ⟨by rfl, ?hy1_7⟩, fun _ => rfl⟩ ?_
          case hy1_7 => intro w; go_simp; first | done | rfl
          simp only [Act.put, List.getElem_toArray, List.getElem_cons_zero, List.getElem_cons_succ, List.setIfInBounds_toArray, List.set_cons_zero, List.set_cons_succ]
          refine wpAnyIn_ready (rs := [8]) (by kernel_rfl) (by simp) ?_
          refine AllReadyIn.cons rfl (fun K hK => ?_) AllReadyIn.nil
          go_simp
          refine hK _ _ ?_
          clear hK K
          refine wpAnyIn_done (by kernel_rfl) ?_ _
          have HQ := HEND.out _ (Or.inr rfl)
          gi_wp2
          exact ⟨by simp, .inl ⟨_, _, rfl, run_takeDeferred HQ.1, ⟨_, results_none rfl _ _ _, HQ.2⟩⟩⟩
        · go_simp
          refine hK _ _ ?_
          clear hK K
          refine wpAnyIn_ready (rs := [1]) (by kernel_rfl) (by simp) ?_
          refine AllReadyIn.cons rfl (fun K hK => ?_) AllReadyIn.nil
          go_simp
          refine hK _ _ ?_
          clear hK K
          refine wpAnyIn_ready (rs := [6]) (by kernel_rfl) (by simp) ?_
          refine AllReadyIn.cons rfl (fun K hK => ?_) AllReadyIn.nil
          go_simp
          refine hK _ _ ?_
          clear hK K
          refine wpAnyIn_take (i := 7) (v := ?_) rfl rfl (by kernel_rfl) (by kernel_rfl) (by kernel_rfl) (fun _ _ _ h => h) ⟨Or.inl ⟨by rfl, ?hy1_7⟩, fun _ => rfl⟩ ?_
          case hy1_7 => intro w; go_simp; first | done | rfl
          simp only [Act.put, List.getElem_toArray, List.getElem_cons_zero, List.getElem_cons_succ, List.setIfInBounds_toArray, List.set_cons_zero, List.set_cons_succ]
          refine wpAnyIn_ready (rs := [8]) (by kernel_rfl) (by simp) ?_
          refine AllReadyIn.cons rfl (fun K hK => ?_) AllReadyIn.nil
          go_simp
          refine hK _ _ ?_
          clear hK K
          refine wpAnyIn_done (by kernel_rfl) ?_ _
          have HQ := HEND.out _ (Or.inr rfl)
          gi_wp2
          exact ⟨by simp, .inl ⟨_, _, rfl, run_takeDeferred HQ.1, ⟨_, results_none rfl _ _ _, HQ.2⟩⟩⟩
      · go_simp
        refine hK _ _ ?_
        clear hK K
        refine wpAnyIn_ready (rs := [1, 2]) (by kernel_rfl) (by simp) ?_
        refine AllReadyIn.cons rfl (fun K hK => ?_) (AllReadyIn.cons rfl (fun K hK => ?_) AllReadyIn.nil)
        · go_simp
          refine hK _ _ ?_
          clear hK K
          refine wpAnyIn_ready (rs := [2]) (by kernel_rfl) (by simp) ?_
          refine AllReadyIn.cons rfl (fun K hK => ?_) AllReadyIn.nil
          go_simp
          refine hK _ _ ?_
          clear hK K
          refine wpAnyIn_ready (rs := [6]) (by kernel_rfl) (by simp) ?_
          refine AllReadyIn.cons rfl (fun K hK => ?_) AllReadyIn.nil
          go_simp
          refine hK _ _ ?_
          clear hK K
          refine wpAnyIn_take (i := 7) (v := ?_) rfl rfl (by kernel_rfl) (by kernel_rfl) (by kernel_rfl) (fun _ _ _ h => h) ⟨Or.inl ⟨by rfl, ?hy1_7⟩, fun _ => rfl⟩ ?_
          case hy1_7 => intro w; go_simp; first | done | rfl
          simp only [Act.put, List.getElem_toArray, List.getElem_cons_zero, List.getElem_cons_succ, List.setIfInBounds_toArray, List.set_cons_zero, List.set_cons_succ]
          refine wpAnyIn_ready (rs := [8]) (by kernel_rfl) (by simp) ?_
          refine AllReadyIn.cons rfl (fun K hK => ?_) AllReadyIn.nil
          go_simp
          refine hK _ _ ?_
          clear hK K
          refine wpAnyIn_done (by kernel_rfl) ?_ _
          have HQ := HEND.out _ (Or.inl rfl)
          gi_wp2
          exact ⟨by simp, .inl ⟨_, _, rfl, run_takeDeferred HQ.1, ⟨_, results_none rfl _ _ _, HQ.2⟩⟩⟩
        · go_simp
          refine hK _ _ ?_
          clear hK K
          refine wpAnyIn_ready (rs := [1]) (by kernel_rfl) (by simp) ?_
          refine AllReadyIn.cons rfl (fun K hK => ?_) AllReadyIn.nil
          go_simp
          refine hK _ _ ?_
          clear hK K
          refine wpAnyIn_ready (rs := [6]) (by kernel_rfl) (by simp) ?_
          refine AllReadyIn.cons rfl (fun K hK => ?_) AllReadyIn.nil
          go_simp
          refine hK _ _ ?_
          clear hK K
          refine wpAnyIn_take (i := 7) (v := ?_) rfl rfl (by kernel_rfl) (by kernel_rfl) (by kernel_rfl) (fun _ _ _ h => h) ⟨Or.inl ⟨by rfl, ?hy1_7⟩, fun _ => rfl⟩ ?_
          case hy1_7 => intro w; go_simp; first | done | rfl
          simp only [Act.put, List.getElem_toArray, List.getElem_cons_zero, List.getElem_cons_succ, List.setIfInBounds_toArray, List.set_cons_zero, List.set_cons_succ]
          refine wpAnyIn_ready (rs := [8]) (by kernel_rfl) (by simp) ?_
          refine AllReadyIn.cons rfl (fun K hK => ?_) AllReadyIn.nil
          go_simp
          refine hK _ _ ?_
          clear hK K
          refine wpAnyIn_done (by kernel_rfl) ?_ _
          have HQ := HEND.out _ (Or.inl rfl)
          gi_wp2
          exact ⟨by simp, .inl ⟨_, _, rfl, run_takeDeferred HQ.1, ⟨_, results_none rfl _ _ _, HQ.2⟩⟩⟩
    · go_simp
      refine hK _ _ ?_
      clear hK K
      refine wpAnyIn_ready (rs := [0, 2]) (by kernel_rfl) (by simp) ?_
      refine AllReadyIn.cons rfl (fun K hK => ?_) (AllReadyIn.cons rfl (fun K hK => ?_) AllReadyIn.nil)
      · go_simp
        refine hK _ _ ?_
        clear hK K
        refine wpAnyIn_take (i := 3) (v := ?_) rfl rfl (by kernel_rfl) (by kernel_rfl) (by kernel_rfl) (fun _ _ _ h => h) ⟨Or.inl ⟨by rfl, ?hy1_3⟩, fun _ => rfl⟩ ?_
        case hy1_3 => intro w; go_simp; first | done | rfl
        simp only [Act.put, List.getElem_toArray, List.getElem_cons_zero, List.getElem_cons_succ, List.setIfInBounds_toArray, List.set_cons_zero, List.set_cons_succ]
        refine wpAnyIn_take (i := 4) (v := ?_) rfl rfl (by kernel_rfl) (by kernel_rfl) (by kernel_rfl) (fun _ _ _ h => h) ⟨Or.inl ⟨by rfl, ?hy1_4⟩, fun _ => rfl⟩ ?_
        case hy1_4 => intro w; go_simp; first | done | rfl
        simp only [Act.put, List.getElem_toArray, List.getElem_cons_zero, List.getElem_cons_succ, List.setIfInBounds_toArray, List.set_cons_zero, List.set_cons_succ]
        refine wpAnyIn_ready (rs := [2, 5]) (by kernel_rfl) (by simp) ?_
        refine AllReadyIn.cons rfl (fun K hK => ?_) (AllReadyIn.cons rfl (fun K hK => ?_) AllReadyIn.nil)
        · go_simp
          refine hK _ _ ?_
          clear hK K
          refine wpAnyIn_ready (rs := [5]) (by kernel_rfl) (by simp) ?_
          refine AllReadyIn.cons rfl (fun K hK => ?_) AllReadyIn.nil
          go_simp
          refine hK _ _ ?_
          clear hK K
          refine wpAnyIn_ready (rs := [6]) (by kernel_rfl) (by simp) ?_
          refine AllReadyIn.cons rfl (fun K hK => ?_) AllReadyIn.nil
          go_simp
          refine hK _ _ ?_
          clear hK K
          refine wpAnyIn_take (i := 7) (v := ?_) rfl rfl (by kernel_rfl) (by kernel_rfl) (by kernel_rfl) (fun _ _ _ h => h) ⟨Or.inl ⟨by rfl, ?hy1_7⟩, fun _ => rfl⟩ ?_
          case hy1_7 => intro w; go_simp; first | done | rfl
          simp only [Act.put, List.getElem_toArray, List.getElem_cons_zero, List.getElem_cons_succ, List.setIfInBounds_toArray, List.set_cons_zero, List.set_cons_succ]
          refine wpAnyIn_ready (rs := [8]) (by kernel_rfl) (by simp) ?_
          refine AllReadyIn.cons rfl (fun K hK => ?_) AllReadyIn.nil
          go_simp
          refine hK _ _ ?_
          clear hK K
          refine wpAnyIn_done (by kernel_rfl) ?_ _
          have HQ := HEND.out _ (Or.inr rfl)
          gi_wp2
          exact ⟨by simp, .inl ⟨_, _, rfl, run_takeDeferred HQ.1, ⟨_, results_none rfl _ _ _, HQ.2⟩⟩⟩
        · go_simp
          refine hK _ _ ?_
          clear hK K
          refine wpAnyIn_ready (rs := [2]) (by kernel_rfl) (by simp) ?_
          refine AllReadyIn.cons rfl (fun K hK => ?_) AllReadyIn.nil
          go_simp
          refine hK _ _ ?_
          clear hK K
          refine wpAnyIn_ready (rs := [6]) (by kernel_rfl) (by simp) ?_
          refine AllReadyIn.cons rfl (fun K hK => ?_) AllReadyIn.nil
          go_simp
          refine hK _ _ ?_
          clear hK K
          refine wpAnyIn_take (i := 7) (v := ?_) rfl rfl (by kernel_rfl) (by kernel_rfl) (by kernel_rfl) (fun _ _ _ h => h) ⟨Or.inl ⟨by rfl, ?hy1_7⟩, fun _ => rfl⟩ ?_
          case hy1_7 => intro w; go_simp; first | done | rfl
          simp only [Act.put, List.getElem_toArray, List.getElem_cons_zero, List.getElem_cons_succ, List.setIfInBounds_toArray, List.set_cons_zero, List.set_cons_succ]
          refine wpAnyIn_ready (rs := [8]) (by kernel_rfl) (by simp) ?_
          refine AllReadyIn.cons rfl (fun K hK => ?_) AllReadyIn.nil
          go_simp
          refine hK _ _ ?_
          clear hK K
          refine wpAnyIn_done (by kernel_rfl) ?_ _
          have HQ := HEND.out _ (Or.inl rfl)
          gi_wp2
          exact ⟨by simp, .inl ⟨_, _, rfl, run_takeDeferred HQ.1, ⟨_, results_none rfl _ _ _, HQ.2⟩⟩⟩
      · go_simp
        refine hK _ _ ?_
        clear hK K
        refine wpAnyIn_ready (rs := [0]) (by kernel_rfl) (by simp) ?_
        refine AllReadyIn.cons rfl (fun K hK => ?_) AllReadyIn.nil
        go_simp
        refine hK _ _ ?_
        clear hK K
        refine wpAnyIn_take (i := 3) (v := ?_) rfl rfl (by kernel_rfl) (by kernel_rfl) (by kernel_rfl) (fun _ _ _ h => h) ⟨Or.inl ⟨by rfl, ?hy1_3⟩, fun _ => rfl⟩ ?_
        case hy1_3 => intro w; go_simp; first | done | rfl
        simp only [Act.put, List.getElem_toArray, List.getElem_cons_zero, List.getElem_cons_succ, List.setIfInBounds_toArray, List.set_cons_zero, List.set_cons_succ]
        refine wpAnyIn_take (i := 4) (v := ?_) rfl rfl (by kernel_rfl) (by kernel_rfl) (by kernel_rfl) (fun _ _ _ h => h) ⟨Or.inl ⟨by rfl, ?hy1_4⟩, fun _ => rfl⟩ ?_
        case hy1_4 => intro w; go_simp; first | done | rfl
        simp only [Act.put, List.getElem_toArray, List.getElem_cons_zero, List.getElem_cons_succ, List.setIfInBounds_toArray, List.set_cons_zero, List.set_cons_succ]
        refine wpAnyIn_ready (rs := [5]) (by kernel_rfl) (by simp) ?_
        refine AllReadyIn.cons rfl (fun K hK => ?_) AllReadyIn.nil
        go_simp
        refine hK _ _ ?_
        clear hK K
        refine wpAnyIn_ready (rs := [6]) (by kernel_rfl) (by simp) ?_
        refine AllReadyIn.cons rfl (fun K hK => ?_) AllReadyIn.nil
        go_simp
        refine hK _ _ ?_
        clear hK K
        refine wpAnyIn_take (i := 7) (v := ?_) rfl rfl (by kernel_rfl) (by kernel_rfl) (by kernel_rfl) (fun _ _ _ h => h) ⟨Or.inl ⟨by rfl, ?hy1_7⟩, fun _ => rfl⟩ ?_
        case hy1_7 => intro w; go_simp; first | done | rfl
        simp only [Act.put, List.getElem_toArray, List.getElem_cons_zero, List.getElem_cons_succ, List.setIfInBounds_toArray, List.set_cons_zero, List.set_cons_succ]
        refine wpAnyIn_ready (rs := [8]) (by kernel_rfl) (by simp) ?_
        refine AllReadyIn.cons rfl (fun K hK => ?_) AllReadyIn.nil
        go_simp
        refine hK _ _ ?_
        clear hK K
        refine wpAnyIn_done (by kernel_rfl) ?_ _
        have HQ := HEND.out _ (Or.inr rfl)
        gi_wp2
        exact ⟨by simp, .inl ⟨_, _, rfl, run_takeDeferred HQ.1, ⟨_, results_none rfl _ _ _, HQ.2⟩⟩⟩
    · go_simp
      refine hK _ _ ?_
      clear hK K
      refine wpAnyIn_ready (rs := [0, 1]) (by kernel_rfl) (by simp) ?_
      refine AllReadyIn.cons rfl (fun K hK => ?_) (AllReadyIn.cons rfl (fun K hK => ?_) AllReadyIn.nil)
      · go_simp
        refine hK _ _ ?_
        clear hK K
        refine wpAnyIn_take (i := 3) (v := ?_) rfl rfl (by kernel_rfl) (by kernel_rfl) (by kernel_rfl) (fun _ _ _ h => h) ⟨Or.inl ⟨by rfl, ?hy1_3⟩, fun _ => rfl⟩ ?_
        case hy1_3 => intro w; go_simp; first | done | rfl
        simp only [Act.put, List.getElem_toArray, List.getElem_cons_zero, List.getElem_cons_succ, List.setIfInBounds_toArray, List.set_cons_zero, List.set_cons_succ]
        refine wpAnyIn_take (i := 4) (v := ?_) rfl rfl (by kernel_rfl) (by kernel_rfl) (by kernel_rfl) (fun _ _ _ h => h) ⟨Or.inl ⟨by rfl, ?hy1_4⟩, fun _ => rfl⟩ ?_
        case hy1_4 => intro w; go_simp; first | done | rfl
        simp only [Act.put, List.getElem_toArray, List.getElem_cons_zero, List.getElem_cons_succ, List.setIfInBounds_toArray, List.set_cons_zero, List.set_cons_succ]
        refine wpAnyIn_ready (rs := [1, 5]) (by kernel_rfl) (by simp) ?_
        refine AllReadyIn.cons rfl (fun K hK => ?_) (AllReadyIn.cons rfl (fun K hK => ?_) AllReadyIn.nil)
        · go_simp
          refine hK _ _ ?_
          clear hK K
          refine wpAnyIn_ready (rs := [5]) (by kernel_rfl) (by simp) ?_
          refine AllReadyIn.cons rfl (fun K hK => ?_) AllReadyIn.nil
          go_simp
          refine hK _ _ ?_
          clear hK K
          refine wpAnyIn_ready (rs := [6]) (by kernel_rfl) (by simp) ?_
          refine AllReadyIn.cons rfl (fun K hK => ?_) AllReadyIn.nil
          go_simp
          refine hK _ _ ?_
          clear hK K
          refine wpAnyIn_take (i := 7) (v := ?_) rfl rfl (by kernel_rfl) (by kernel_rfl) (by kernel_rfl) (fun _ _ _ h => h) ⟨Or.inl ⟨by rfl, ?hy1_7⟩, fun _ => rfl⟩ ?_
          case hy1_7 => intro w; go_simp; first | done | rfl
          simp only [Act.put, List.getElem_toArray, List.getElem_cons_zero, List.getElem_cons_succ, List.setIfInBounds_toArray, List.set_cons_zero, List.set_cons_succ]
          refine wpAnyIn_ready (rs := [8]) (by kernel_rfl) (by simp) ?_
          refine AllReadyIn.cons rfl (fun K hK => ?_) AllReadyIn.nil
          go_simp
          refine hK _ _ ?_
          clear hK K
          refine wpAnyIn_done (by kernel_rfl) ?_ _
          have HQ := HEND.out _ (Or.inr rfl)
          gi_wp2
          exact ⟨by simp, .inl ⟨_, _, rfl, run_takeDeferred HQ.1, ⟨_, results_none rfl _ _ _, HQ.2⟩⟩⟩
        · go_simp
          refine hK _ _ ?_
          clear hK K
          refine wpAnyIn_ready (rs := [1]) (by kernel_rfl) (by simp) ?_
          refine AllReadyIn.cons rfl (fun K hK => ?_) AllReadyIn.nil
          go_simp
          refine hK _ _ ?_
          clear hK K
          refine wpAnyIn_ready (rs := [6]) (by kernel_rfl) (by simp) ?_
          refine AllReadyIn.cons rfl (fun K hK => ?_) AllReadyIn.nil
          go_simp
          refine hK _ _ ?_
          clear hK K
          refine wpAnyIn_take (i := 7) (v := ?_) rfl rfl (by kernel_rfl) (by kernel_rfl) (by kernel_rfl) (fun _ _ _ h => h) ⟨Or.inl ⟨by rfl, ?hy1_7⟩, fun _ => rfl⟩ ?_
          case hy1_7 => intro w; go_simp; first | done | rfl
          simp only [Act.put, List.getElem_toArray, List.getElem_cons_zero, List.getElem_cons_succ, List.setIfInBounds_toArray, List.set_cons_zero, List.set_cons_succ]
          refine wpAnyIn_ready (rs := [8]) (by kernel_rfl) (by simp) ?_
          refine AllReadyIn.cons rfl (fun K hK => ?_) AllReadyIn.nil
          go_simp
          refine hK _ _ ?_
          clear hK K
          refine wpAnyIn_done (by kernel_rfl) ?_ _
          have HQ := HEND.out _ (Or.inr rfl)
          gi_wp2
          exact ⟨by simp, .inl ⟨_, _, rfl, run_takeDeferred HQ.1, ⟨_, results_none rfl _ _ _, HQ.2⟩⟩⟩
      · go_simp
        refine hK _ _ ?_
        clear hK K
        refine wpAnyIn_ready (rs := [0]) (by kernel_rfl) (by simp) ?_
        refine AllReadyIn.cons rfl (fun K hK => ?_) AllReadyIn.nil
        go_simp
        refine hK _ _ ?_
        clear hK K
        refine wpAnyIn_take (i := 3) (v := ?_) rfl rfl (by kernel_rfl) (by kernel_rfl) (by kernel_rfl) (fun _ _ _ h => h) ⟨Or.inl ⟨by rfl, ?hy1_3⟩, fun _ => rfl⟩ ?_
        case hy1_3 => intro w; go_simp; first | done | rfl
        simp only [Act.put, List.getElem_toArray, List.getElem_cons_zero, List.getElem_cons_succ, List.setIfInBounds_toArray, List.set_cons_zero, List.set_cons_succ]
        refine wpAnyIn_take (i := 4) (v := ?_) rfl rfl (by kernel_rfl) (by kernel_rfl) (by kernel_rfl) (fun _ _ _ h => h) ⟨Or.inl ⟨by rfl, ?hy1_4⟩, fun _ => rfl⟩ ?_
        case hy1_4 => intro w; go_simp; first | done | rfl
        simp only [Act.put, List.getElem_toArray, List.getElem_cons_zero, List.getElem_cons_succ, List.setIfInBounds_toArray, List.set_cons_zero, List.set_cons_succ]
        refine wpAnyIn_ready (rs := [5]) (by kernel_rfl) (by simp) ?_
        refine AllReadyIn.cons rfl (fun K hK => ?_) AllReadyIn.nil
        go_simp
        refine hK _ _ ?_
        clear hK K
        refine wpAnyIn_ready (rs := [6]) (by kernel_rfl) (by simp) ?_
        refine AllReadyIn.cons rfl (fun K hK => ?_) AllReadyIn.nil
        go_simp
        refine hK _ _ ?_
        clear hK K
        refine wpAnyIn_take (i := 7) (v := ?_) rfl rfl (by kernel_rfl) (by kernel_rfl) (by kernel_rfl) (fun _ _ _ h => h) ⟨Or.inl ⟨by rfl, ?hy1_7⟩, fun _ => rfl⟩ ?_
        case hy1_7 => intro w; go_simp; first | done | rfl
        simp only [Act.put, List.getElem_toArray, List.getElem_cons_zero, List.getElem_cons_succ, List.setIfInBounds_toArray, List.set_cons_zero, List.set_cons_succ]
        refine wpAnyIn_ready (rs := [8]) (by kernel_rfl) (by simp) ?_
        refine AllReadyIn.cons rfl (fun K hK => ?_) AllReadyIn.nil
        go_simp
        refine hK _ _ ?_
        clear hK K
        refine wpAnyIn_done (by kernel_rfl) ?_ _
        have HQ := HEND.out _ (Or.inr rfl)
        gi_wp2
        exact ⟨by simp, .inl ⟨_, _, rfl, run_takeDeferred HQ.1, ⟨_, results_none rfl _ _ _, HQ.2⟩⟩⟩
  case stop =>
    rintro D c pre W _ _ h _
    exact h.elim
theorem settle_any (w : World) (S : Nat → Prop) (b : Nat) (d : Ek.Dk) (ksv : Value) (ks : List Int) (h : Dsk w S b d) (hks : Ks w ksv ks) :
    Calls Try.prog 37 #[.pointer (some ⟨b, 0, none⟩), ksv] w (DP w S b (Ek.settled d (Ek.nth ks)) (.tuple #[])) :=
  callsIn_wide.1 (settle_in 4 (Nat.le_refl _) w S b d ksv ks h hks)
end Go.Proofs.Ythbiibinmofmfaa
