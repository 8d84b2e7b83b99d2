/- Contract of (*source).header: a mark, and numbers. -/
import Derived.Test.YtillckjohlbaiaaNfill
import Derived.Test.YtillckjohlbaiaaNseq

namespace Go.Proofs.Ytillckjohlbaiaa
set_option maxRecDepth 100000
open Go.RowKit Go.Shelf

attribute [local go_sem] Oper.semAt_some

theorem Sb.below {w w' : World} {R : Nat} {a : Option Addr} {len cap : Nat} {bs : List Nat} (h : Sb w R a len cap bs) (hb : Below w.heap.size w w') : Sb w' R a len cap bs := h.lo (Lo.of_below hb)
theorem Lo.lt {b m : Nat} {A B : World} (h : Lo b m A B) {k : Nat} (hk : k < A.heap.size) : k < B.heap.size := Nat.lt_of_lt_of_le hk h.size
/-- What holds as long as the m blocks from b on alone turn. -/
theorem Lo.rs {w w' : World} {b m R : Nat} {t : TypeId} {v : Value} {pl f : Int} {F : List Int} (hl : Lo b m w w') (h : Rs w R t v pl f F) (hr : R < b ∨ b + m ≤ R) : Rs w' R t v pl f F := hl.has h hr
theorem Sb.loo {w w' : World} {R b m : Nat} {a : Option Addr} {len cap : Nat} {bs : List Nat} (h : Sb w R a len cap bs) (hl : Lo b m w w') (hb : R ≤ b) : Sb w' R a len cap bs := by
  obtain ⟨⟨a', len', cap', he, h1, h2, h3, h4, h5⟩, h6, h7⟩ := h
  injection he with e1 e2 e3
  subst e1 e2 e3
  refine ⟨⟨_, _, _, rfl, h1, h2, h3, h4, fun hn => ?_⟩, h6, h7⟩
  obtain ⟨b', off, e, hlt, hc⟩ := h5 hn
  refine ⟨b', off, e, Nat.lt_of_lt_of_le hlt hl.size, fun i hi => ?_⟩
  have hb' := h7 _ hn e
  have hbb : b' < R := hb'
  have : w'.heap[b']? = w.heap[b']? := hl.block b' hlt (Or.inl (by omega))
  simp only [World.cell?, this]
  exact hc i hi
/-- Of what was there ahead of C at most block R has turned. -/
structure Lr (C R : Nat) (A B : World) : Prop where
  os : B.os = A.os
  tape : B.tape = A.tape
  output : B.output = A.output
  size : A.heap.size ≤ B.heap.size
  block : ∀ k, k < C → k ≠ R → B.heap[k]? = A.heap[k]?
theorem Lr.refl (C R : Nat) (A : World) : Lr C R A A := ⟨rfl, rfl, rfl, Nat.le_refl _, fun _ _ _ => rfl⟩
theorem Lr.lo {C R b m : Nat} {A B D : World} (h : Lr C R A B) (hl : Lo b m B D) (hC : C ≤ B.heap.size) (hb : (b = R ∧ m = 1) ∨ C ≤ b) : Lr C R A D :=
  ⟨hl.os.trans h.os, hl.tape.trans h.tape, hl.output.trans h.output, Nat.le_trans h.size hl.size, fun k hk hr => (hl.block k (Nat.lt_of_lt_of_le hk hC) (by omega)).trans (h.block k hk hr)⟩
theorem Lr.to {R : Nat} {A B : World} (h : Lr A.heap.size R A B) : Lo R 1 A B := ⟨h.os, h.tape, h.output, h.size, fun k hk hb => h.block k hk (by omega)⟩


set_option maxRecDepth 100000 in
set_option maxHeartbeats 4000000 in
theorem header_short (gf R m : Nat) (t : TypeId) (L : List (Nat × Int)) (hseq : SeqFix Try.prog gf #[.pointer (some ⟨R, 3, none⟩)] #[] (L.map (fw R 3))) (eg : ∀ args w, (callFunc gf args).run Try.prog w = .ok (.enter gf args) w)
    (hL : ∀ p ∈ L, p.2 = (p.2.toNat : Int) ∧ (p.2.toNat = 2 ∨ p.2.toNat = 4) ∧ p.1 < m) (hsum : sumw L ≤ 900) (mk : List Nat) (hmk : ∀ x ∈ mk, x < 256) (hml : mk.length = 4) (w : World)
    (a : Option Addr) (len cap : Nat) (bs : List Nat) (i : Int) (hs : Sb w R a len cap bs) (hr : Rs w R t (.slice a len cap) i 0 (List.replicate m 0)) (hE : (pe len i (4 + sumw L) == 0) = false) :
    CallsIn Fence.wide 9 Try.prog 73 #[.pointer (some ⟨R, 0, none⟩), .string (strB mk), .func (.func gf) #[.pointer (some ⟨R, 3, none⟩)] #[]] w fun e w' =>
      e = .returned (.tuple #[]) ∧ Rs w' R t (.slice a len cap) i (pe len i (4 + sumw L)) (List.replicate m 0) ∧ Sb w' R a len cap bs ∧ Lo R 1 w w' := by
  have hRw : R < w.heap.size := Has.lt hr
  have hsz := strB_size mk
  have hml4 := strB_list mk
  rw [hml] at hsz
  obtain ⟨ml, hmle⟩ : ∃ ml, mk.map UInt8.ofNat = ml := ⟨_, rfl⟩
  rw [hmle] at hml4
  have hne : (([] : List UInt8) == ml) = false := by
    rw [← hmle]
    cases mk with
    | nil => simp at hml
    | cons x xs => rfl
  obtain ⟨M, hM⟩ : ∃ M, M = strB mk := ⟨_, rfl⟩
  rw [← hM] at hml4 hsz ⊢
  have HSEQ := Lib.hid hseq
  have HL := Lib.hid hL
  have HSum : Hid (sumw L ≤ 900) := hsum
  have HS := Lib.hid hs
  have HR := Lib.hid hr
  have HE := Lib.hid hE
  clear hseq hL hsum hs hr hmk hml hmle hM hE
  refine callsIn_of_wp_marks Try.func73 rfl trivial ?_ rfl
  simp only [Try.ntmps73, List.size_toArray, List.length_cons, List.length_nil, Nat.reduceAdd, Nat.reduceSub, Array.replicate_succ, Array.replicate_zero, List.push_toArray, List.append_toArray, List.nil_append, List.cons_append]
  gi_wp2
  obtain ⟨w1, hw1⟩ : ∃ w1, w1 = (w.alloc (.cells #[.pointer (some ⟨R, 0, none⟩)] 171)).alloc (.cells #[.int .i64 4] 3) := ⟨_, rfl⟩
  have hz1 : w1.heap.size = w.heap.size + 2 := by rw [hw1]; simp
  have b0 : Has w1 w.heap.size (.cells #[.pointer (some ⟨R, 0, none⟩)] 171 (0, 0)) := by rw [hw1]; exact (Has.new w _).alloc _
  have b1 : Has w1 (w.heap.size + 1) (.cells #[.int .i64 4] 3 (0, 0)) := by
    have := Has.new (w.alloc (.cells #[.pointer (some ⟨R, 0, none⟩)] 171)) (.cells #[.int .i64 4] 3)
    rw [World.size_alloc] at this
    rw [hw1]; exact this
  have hB1 : Below w.heap.size w w1 := by rw [hw1]; exact below2 w _ _
  rw [← hw1]
  have I0 : Hid (Has w1 (w.heap.size + 1) (.cells #[.int .i64 ((4 + sumw (L.take 0) : Nat) : Int)] 3 (0, 0)) ∧ Has w1 w.heap.size (.cells #[.pointer (some ⟨R, 0, none⟩)] 171 (0, 0)) ∧ Below w.heap.size w w1) := ⟨b1, b0, hB1⟩
  clear hw1 b0 b1 hB1
  have HZ1 := Lib.hid hz1
  refine range_fix (a₁ := fun p => { tmps := #[.pointer (some ⟨R, 0, none⟩), .string M, .func (.func gf) #[.pointer (some ⟨R, 3, none⟩)] #[], .pointer (some ⟨w.heap.size, 0, none⟩), undef, undef, .pointer (some ⟨w.heap.size + 1, 0, none⟩), undef, .int .i64 p.2, undef, undef, .string M, .int .i64 4, .func (.func gf) #[.pointer (some ⟨R, 3, none⟩)] #[], .pointer (some ⟨R, 3 + p.1, none⟩), .int .i64 p.2, undef, undef, undef, undef, undef, undef, undef, undef, undef, undef, undef, undef, undef, undef, undef, undef, undef, undef, undef, undef, undef, undef, undef], defers := [] })
    (gf := gf) (first := #[.pointer (some ⟨R, 3, none⟩)]) (lb := #[]) rfl eg HSEQ.out (fun _ => rfl)
    (fun i W => Has W (w.heap.size + 1) (.cells #[.int .i64 ((4 + sumw (L.take i) : Nat) : Int)] 3 (0, 0)) ∧ Has W w.heap.size (.cells #[.pointer (some ⟨R, 0, none⟩)] 171 (0, 0)) ∧ Below w.heap.size w W)
    (fun i A C h hl => ⟨hl.has h.1 (Or.inl (by omega)), hl.has h.2.1 (Or.inl (by omega)), hl.below h.2.2 (by omega) h.2.2.size⟩) I0.out ?assign ?body ?done
  case assign =>
    intro l p W K hK
    unfold fw fld
    gi_wp2
    exact hK
  case body =>
    rintro l j p W hp ⟨hb, h0, hB⟩ hsz
    have hpm : p ∈ L := List.mem_of_getElem? hp
    obtain ⟨hp2, hp3, _⟩ := HL.out p hpm
    have hsu := sumw_succ L j p hp
    have hst := sumw_take L (j + 1)
    have hsm := HSum.out
    obtain ⟨c1, d1⟩ := hb.one
    have E : IntKind.i64.wrap (((4 + sumw (L.take j) : Nat) : Int) + p.2) = ((4 + sumw (L.take (j + 1)) : Nat) : Int) := by rw [IntWalk.i64_in _ (by omega)]; omega
    have HF : Hid (∀ (aa : Act), FixPost w1.heap.size (fun W => Has W (w.heap.size + 1) (.cells #[.int .i64 ((4 + sumw (L.take (j + 1)) : Nat) : Int)] 3 (0, 0)) ∧ Has W w.heap.size (.cells #[.pointer (some ⟨R, 0, none⟩)] 171 (0, 0)) ∧ Below w.heap.size w W) W .normal aa (W.setCell ⟨w.heap.size + 1, 0, none⟩ (.int .i64 ((4 + sumw (L.take (j + 1)) : Nat) : Int)))) := by
      intro aa
      refine ⟨rfl, ⟨rfl, rfl, rfl, by simp [World.setCell], fun k hk _ => Below.heap_setCell _ _ _ _ (by show k ≠ w.heap.size + 1; omega)⟩, hb.setSelf _, h0.set (by show w.heap.size ≠ w.heap.size + 1; omega) _, ?_⟩
      exact hB.trans ⟨rfl, rfl, rfl, by simp [World.setCell], fun k hk => Below.heap_setCell _ _ _ _ (by show k ≠ w.heap.size + 1; omega)⟩
    generalize 4 + sumw (L.take (j + 1)) = s1 at *
    generalize 4 + sumw (L.take j) = s0 at *
    obtain ⟨q1, hq1⟩ : ∃ q1, q1 = p.1 := ⟨_, rfl⟩
    obtain ⟨q2, hq2⟩ : ∃ q2, q2 = p.2 := ⟨_, rfl⟩
    rw [← hq1]
    rw [← hq2] at E ⊢
    clear hb h0 hB hpm hp hp2 hp3 hsu hst hsm hq1 hq2 hsz
    gi_wp2
    exact HF.out _
  case done =>
    rintro W ⟨hb, h0, hB⟩ hD
    rw [List.take_length] at hb
    have hz1 := HZ1.out
    have hsm := HSum.out
    have hCW : w.heap.size ≤ W.heap.size := hB.size
    have hDlt : w1.heap.size < W.heap.size := (Array.getElem?_eq_some_iff.1 hD).1
    obtain ⟨sw, hsw⟩ : ∃ sw, sw = 4 + sumw L := ⟨_, rfl⟩
    rw [← hsw] at hb
    obtain ⟨c1, d1⟩ := hb.one
    obtain ⟨c0, d0⟩ := h0.one
    have rW := hB.mono (Nat.le_refl _)
    have R0 : Rs W R t (.slice a len cap) i 0 (List.replicate m 0) := HR.out.later hB
    have S0 : Sb W R a len cap bs := HS.out.below hB
    have HN := Lib.hid (need_any R t a len cap bs i (List.replicate m 0) sw (by have := HSum.out; omega) W S0 R0)
    have H0 := Lib.hid h0
    have H1 := Lib.hid hb
    have HD := Lib.hid hD
    have HB := Lib.hid hB
    have HS0 := Lib.hid S0
    have hRC : Hid (R < w.heap.size) := hRw
    have HDlt : Hid (w1.heap.size < W.heap.size) := hDlt
    have HSW := Lib.hid hsw
    rw [← hsw] at HE
    have hEf : (pe len i sw != 0) = true := by have h := HE.out; simp only [bne, h]; rfl
    have hE0 := HE.out
    obtain ⟨E, hEe⟩ : ∃ E, E = pe len i sw := ⟨_, rfl⟩
    rw [← hEe] at HN hEf hE0
    have HEe := Lib.hid hEe
    clear hz1 hCW hDlt hB h0 hb hD R0 S0 rW hRw hsw hsm hEe I0 d1 d0
    have HP := Lib.hid (fun W hW => piece_fault R t (.slice a len cap) i E (List.replicate m 0) 4 hEf W hW)
    have HRf := Lib.hid (fun W hW => refuse_more R t (.slice a len cap) i E (List.replicate m 0) 15 hE0 W hW)
    have HA0 : Hid ((⟨#[]⟩ : ByteArray) = strB []) := rfl
    have hA0 : (⟨#[]⟩ : ByteArray).toList = [] := by rw [ByteArray.toList_eq]
    have hcv : ∀ W, (convert 22 9 (.slice none 0 0)).run Try.prog W = .ok (.string ⟨#[]⟩) W := fun W => string_of W none 0 0 [] _ (Sl.nil W) HA0
    clear hE0
    gi_wp2_with (first | (refine ⟨trivial, ?_⟩; gi_at_call 105; refine (callsIn_wide.2 HN.out).mono ?_; rintro e w2 ⟨rfl, hr2, hl2⟩; have R2 := Lib.hid hr2; have L2 := Lib.hid hl2; have c2 : w2.cell? ⟨w.heap.size, 0, none⟩ = some (.pointer (some ⟨R, 0, none⟩)) := (hl2.has H0.out (Or.inr hRC.out)).one.1; have S2 := Lib.hid (HS0.out.lo hl2); clear hr2 hl2 HN) | (refine ⟨trivial, ?_⟩; gi_at_call 76; refine (callsIn_wide.2 (HP.out _ R2.out)).mono ?_; rintro e w3 ⟨rfl, rfl⟩; clear HP) | (refine ⟨trivial, ?_⟩; gi_at_call 75; refine (callsIn_wide.2 (HRf.out _ R2.out)).mono ?_; rintro e w4 ⟨rfl, rfl⟩; clear HRf))
    have hz1 := HZ1.out
    have hRCo := hRC.out
    have V0 : Has w2 w.heap.size (.cells #[.pointer (some ⟨R, 0, none⟩)] 171 (0, 0)) := (L2.out.has H0.out (Or.inr hRC.out))
    have VD : Has w2 w1.heap.size (.deferred (some [])) := (Lo.has L2.out (HD.out : Has W w1.heap.size (.deferred (some []))) (Or.inr (by omega)))
    have VL0 : Lr w.heap.size R w W := ⟨HB.out.os, HB.out.tape, HB.out.output, HB.out.size, fun k hk _ => HB.out.block k hk⟩
    have VL1 : Lr w.heap.size R w w2 := VL0.lo L2.out VL0.size (Or.inl ⟨rfl, rfl⟩)
    have hDl : w1.heap.size < w2.heap.size := VD.lt
    have J0 : Hid ((fun _ W => Rs W R t (.slice a len cap) i E (List.replicate m 0) ∧ Has W w.heap.size (.cells #[.pointer (some ⟨R, 0, none⟩)] 171 (0, 0)) ∧ Sb W R a len cap bs ∧ Lr w.heap.size R w W ∧ Has W w1.heap.size (.deferred (some []))) 0 w2) := ⟨R2.out, V0, S2.out, VL1, VD⟩
    have HZ1' := HZ1
    clear c2 hRCo V0 VD VL0 VL1 hcv hA0 hne hml4 hsz H0 H1 HD HB HS0 L2 R2 S2
    refine range_fix (a₁ := fun p => { tmps := #[.pointer (some ⟨R, 0, none⟩), .string M, .func (.func gf) #[.pointer (some ⟨R, 3, none⟩)] #[], .pointer (some ⟨w.heap.size, 0, none⟩), undef, undef, .pointer (some ⟨w.heap.size + 1, 0, none⟩), undef, undef, .pointer (some ⟨R, 3 + p.1, none⟩), .int .i64 p.2, .string M, .int .i64 4, .func (.func gf) #[.pointer (some ⟨R, 3, none⟩)] #[], undef, undef, undef, undef, undef, .pointer (some ⟨R, 0, none⟩), .int .i64 (sw : Int), .tuple #[], .pointer (some ⟨R, 0, none⟩), .string M, .int .i64 4, .slice none 0 0, .string ⟨#[]⟩, .string M, .bool true, .pointer (some ⟨R, 0, none⟩), .tuple #[], .func (.func gf) #[.pointer (some ⟨R, 3, none⟩)] #[], .pointer (some ⟨R, 3 + p.1, none⟩), .int .i64 p.2, undef, undef, undef, undef, undef], defers := [] })
      (gf := gf) (first := #[.pointer (some ⟨R, 3, none⟩)]) (lb := #[]) rfl eg HSEQ.out (fun _ => rfl)
      (fun _ W => Rs W R t (.slice a len cap) i E (List.replicate m 0) ∧ Has W w.heap.size (.cells #[.pointer (some ⟨R, 0, none⟩)] 171 (0, 0)) ∧ Sb W R a len cap bs ∧ Lr w.heap.size R w W ∧ Has W w1.heap.size (.deferred (some [])))
      (fun j A C h hl => ⟨hl.rs h.1 (Or.inl (by have := hRC.out; omega)), hl.has h.2.1 (Or.inl (by omega)), h.2.2.1.loo hl (by have := hRC.out; omega), h.2.2.2.1.lo hl h.2.2.2.1.size (Or.inr (by omega)), hl.has h.2.2.2.2 (Or.inl (by omega))⟩) J0.out ?assign ?body ?done
    case assign =>
      intro l p W K hK
      unfold fw fld
      gi_wp2
      exact hK
    case body =>
      rintro l j p W hp ⟨hr, h0, hs, hlr, hd⟩ hsz
      have hRl := hRC.out
      have hpm : p ∈ L := List.mem_of_getElem? hp
      obtain ⟨hp2, hp3, hp4⟩ := HL.out p hpm
      obtain ⟨c0, d0⟩ := h0.one
      have HNu := Lib.hid (number_fault R t (.slice a len cap) i E (List.replicate m 0) p.2 hEf W hr)
      have hfl : (List.replicate m (0 : Int)).length = m := List.length_replicate
      have hzs := zeros_set m p.1
      have HF : Hid (∀ aa : Act, FixPost w2.heap.size (fun W => Rs W R t (.slice a len cap) i E (List.replicate m 0) ∧ Has W w.heap.size (.cells #[.pointer (some ⟨R, 0, none⟩)] 171 (0, 0)) ∧ Sb W R a len cap bs ∧ Lr w.heap.size R w W ∧ Has W w1.heap.size (.deferred (some []))) W .normal aa (W.setCell ⟨R, 3 + p.1, none⟩ (.int .i64 0))) := by
        intro aa
        have hle : Lo R 1 W (W.setCell ⟨R, 3 + p.1, none⟩ (.int .i64 0)) := Lo.setCell _ _ _ _
        have hput := hr.put p.1 0
        rw [hzs] at hput
        exact ⟨rfl, ⟨hle.os, hle.tape, hle.output, hle.size, fun k hk hk2 => hle.block k hk2 (Or.inr (by omega))⟩, hput, hle.has h0 (Or.inr (by omega)), hs.lo hle, hlr.lo hle hlr.size (Or.inl ⟨rfl, rfl⟩), hle.has hd (Or.inr (by omega))⟩
      have g1 := hr.field p.1 (by omega)
      have g2 := hr.free (3 + p.1)
      generalize ((List.replicate m (0 : Int))[p.1]?.getD 0) = gz at g1
      obtain ⟨q1, hq1⟩ : ∃ q1, q1 = p.1 := ⟨_, rfl⟩
      obtain ⟨q2, hq2⟩ : ∃ q2, q2 = p.2 := ⟨_, rfl⟩
      rw [← hq1] at HF g1 g2 ⊢
      rw [← hq2] at HNu ⊢
      clear hr h0 hs hlr hd hpm hp2 hp3 hp4 hp hfl hzs hq1 hq2 hsz J0 HSEQ
      gi_wp2_with (refine ⟨trivial, ?_⟩; gi_at_call 106; refine (CallsIn.inRound l (callsIn_wide.2 HNu.out)).mono ?_; rintro e w4 ⟨rfl, rfl⟩)
      exact HF.out _
    case done =>
      rintro W9 ⟨hr, h0, hs, hlr, hd⟩ hD2
      have HR9 := Lib.hid hr
      have HS9 := Lib.hid hs
      have HLr := Lib.hid hlr
      have Hd := Lib.hid hd
      have HD2 := Lib.hid hD2
      have hRl := hRC.out
      have HDl := Lib.hid hDl
      clear hr h0 hs hlr hd hD2 J0 HSEQ hDl
      gi_wp2
      refine ⟨by simp, .inl ⟨_, _, rfl, run_takeDeferred HD2.out, ?_⟩⟩
      have hDl := HDl.out
      have P1 := Lo.putObj W9 w2.heap.size (.deferred none)
      have hz1 := HZ1.out
      have D1 : Has (W9.putObj w2.heap.size (.deferred none)) (w.heap.size + 2) (.deferred (some [])) := by
        rw [← HZ1.out]
        exact P1.has Hd.out (Or.inl (by omega))
      refine ⟨by simp, .inl ⟨_, _, rfl, run_takeDeferred D1, ?_⟩⟩
      have P2 := Lo.putObj (W9.putObj w2.heap.size (.deferred none)) (w.heap.size + 2) (.deferred none)
      refine ⟨.tuple #[], by simp [results, Try.results73, go_sem], rfl, ?_, ?_, ?_⟩
      · rw [← HSW.out, ← HEe.out]
        exact P2.rs (P1.rs HR9.out (Or.inl (by omega))) (Or.inl (by omega))
      · exact (HS9.out.loo P1 (by omega)).loo P2 (by omega)
      · have q1 := HLr.out.lo P1 HLr.out.size (Or.inr (by omega))
        exact (q1.lo P2 q1.size (Or.inr (by omega))).to

set_option maxRecDepth 100000 in
set_option maxHeartbeats 4000000 in
theorem header_ok (gf R m : Nat) (t : TypeId) (L : List (Nat × Int)) (hseq : SeqFix Try.prog gf #[.pointer (some ⟨R, 3, none⟩)] #[] (L.map (fw R 3))) (eg : ∀ args w, (callFunc gf args).run Try.prog w = .ok (.enter gf args) w)
    (hL : ∀ p ∈ L, p.2 = (p.2.toNat : Int) ∧ (p.2.toNat = 2 ∨ p.2.toNat = 4) ∧ p.1 < m) (hsum : sumw L ≤ 900) (mk : List Nat) (_ : ∀ x ∈ mk, x < 256) (hml : mk.length = 4) (w : World)
    (a : Option Addr) (len cap : Nat) (bs : List Nat) (i : Nat) (hs : Sb w R a len cap bs) (hr : Rs w R t (.slice a len cap) (i : Int) 0 (List.replicate m 0)) (hi : i + (4 + sumw L) ≤ len) (hE : (bs.drop i).take 4 = mk) :
    CallsIn Fence.wide 9 Try.prog 73 #[.pointer (some ⟨R, 0, none⟩), .string (strB mk), .func (.func gf) #[.pointer (some ⟨R, 3, none⟩)] #[]] w fun e w' =>
      e = .returned (.tuple #[]) ∧ Rs w' R t (.slice a len cap) ((i + 4 + sumw L : Nat) : Int) 0 (fill bs (i + 4) L (List.replicate m 0)) ∧ Sb w' R a len cap bs ∧ Lo R 1 w w' := by
  have hRw : R < w.heap.size := Has.lt hr
  have hsz := strB_size mk
  have hml4 := strB_list mk
  rw [hml] at hsz
  obtain ⟨ml, hmle⟩ : ∃ ml, mk.map UInt8.ofNat = ml := ⟨_, rfl⟩
  rw [hmle] at hml4
  have hlen := hs.1.len.1
  have hlen2 := hs.1.len.2.1
  obtain ⟨q, hq⟩ : ∃ q, q = (bs.drop i).take 4 := ⟨_, rfl⟩
  rw [← hq] at hE
  have hq8 : ∀ x ∈ q, x < 256 := fun x hx => hs.1.bytes x (by rw [hq] at hx; exact List.mem_of_mem_drop (List.mem_of_mem_take hx))
  have hql := strB_list q
  have hne : (q.map UInt8.ofNat == ml) = true := by rw [← hmle, hE]; simp
  obtain ⟨ql, hqle⟩ : ∃ ql, q.map UInt8.ofNat = ql := ⟨_, rfl⟩
  rw [hqle] at hql hne
  obtain ⟨A, hA⟩ : ∃ A, A = strB q := ⟨_, rfl⟩
  rw [← hA] at hql
  obtain ⟨M, hM⟩ : ∃ M, M = strB mk := ⟨_, rfl⟩
  rw [← hM] at hml4 hsz ⊢
  have HSEQ := Lib.hid hseq
  have HL := Lib.hid hL
  have HSum : Hid (sumw L ≤ 900) := hsum
  have HS := Lib.hid hs
  have HR := Lib.hid hr
  have HE := Lib.hid hE
  have HI := Lib.hid (fun _ : Unit => hi)
  have HQ := Lib.hid hq
  have HAq := Lib.hid hA
  have HLen := Lib.hid (fun _ : Unit => hlen2)
  clear hseq hL hsum hs hr hml hmle hM hE hi hq hA hlen hlen2 hqle hq8
  refine callsIn_of_wp_marks Try.func73 rfl trivial ?_ rfl
  simp only [Try.ntmps73, List.size_toArray, List.length_cons, List.length_nil, Nat.reduceAdd, Nat.reduceSub, Array.replicate_succ, Array.replicate_zero, List.push_toArray, List.append_toArray, List.nil_append, List.cons_append]
  gi_wp2
  obtain ⟨w1, hw1⟩ : ∃ w1, w1 = (w.alloc (.cells #[.pointer (some ⟨R, 0, none⟩)] 171)).alloc (.cells #[.int .i64 4] 3) := ⟨_, rfl⟩
  have hz1 : w1.heap.size = w.heap.size + 2 := by rw [hw1]; simp
  have b0 : Has w1 w.heap.size (.cells #[.pointer (some ⟨R, 0, none⟩)] 171 (0, 0)) := by rw [hw1]; exact (Has.new w _).alloc _
  have b1 : Has w1 (w.heap.size + 1) (.cells #[.int .i64 4] 3 (0, 0)) := by
    have := Has.new (w.alloc (.cells #[.pointer (some ⟨R, 0, none⟩)] 171)) (.cells #[.int .i64 4] 3)
    rw [World.size_alloc] at this
    rw [hw1]; exact this
  have hB1 : Below w.heap.size w w1 := by rw [hw1]; exact below2 w _ _
  rw [← hw1]
  have I0 : Hid (Has w1 (w.heap.size + 1) (.cells #[.int .i64 ((4 + sumw (L.take 0) : Nat) : Int)] 3 (0, 0)) ∧ Has w1 w.heap.size (.cells #[.pointer (some ⟨R, 0, none⟩)] 171 (0, 0)) ∧ Below w.heap.size w w1) := ⟨b1, b0, hB1⟩
  clear hw1 b0 b1 hB1
  have HZ1 := Lib.hid hz1
  refine range_fix (a₁ := fun p => { tmps := #[.pointer (some ⟨R, 0, none⟩), .string M, .func (.func gf) #[.pointer (some ⟨R, 3, none⟩)] #[], .pointer (some ⟨w.heap.size, 0, none⟩), undef, undef, .pointer (some ⟨w.heap.size + 1, 0, none⟩), undef, .int .i64 p.2, undef, undef, .string M, .int .i64 4, .func (.func gf) #[.pointer (some ⟨R, 3, none⟩)] #[], .pointer (some ⟨R, 3 + p.1, none⟩), .int .i64 p.2, undef, undef, undef, undef, undef, undef, undef, undef, undef, undef, undef, undef, undef, undef, undef, undef, undef, undef, undef, undef, undef, undef, undef], defers := [] })
    (gf := gf) (first := #[.pointer (some ⟨R, 3, none⟩)]) (lb := #[]) rfl eg HSEQ.out (fun _ => rfl)
    (fun i W => Has W (w.heap.size + 1) (.cells #[.int .i64 ((4 + sumw (L.take i) : Nat) : Int)] 3 (0, 0)) ∧ Has W w.heap.size (.cells #[.pointer (some ⟨R, 0, none⟩)] 171 (0, 0)) ∧ Below w.heap.size w W)
    (fun i A C h hl => ⟨hl.has h.1 (Or.inl (by omega)), hl.has h.2.1 (Or.inl (by omega)), hl.below h.2.2 (by omega) h.2.2.size⟩) I0.out ?assign ?body ?done
  case assign =>
    intro l p W K hK
    unfold fw fld
    gi_wp2
    exact hK
  case body =>
    rintro l j p W hp ⟨hb, h0, hB⟩ hsz
    have hpm : p ∈ L := List.mem_of_getElem? hp
    obtain ⟨hp2, hp3, _⟩ := HL.out p hpm
    have hsu := sumw_succ L j p hp
    have hst := sumw_take L (j + 1)
    have hsm := HSum.out
    obtain ⟨c1, d1⟩ := hb.one
    have E : IntKind.i64.wrap (((4 + sumw (L.take j) : Nat) : Int) + p.2) = ((4 + sumw (L.take (j + 1)) : Nat) : Int) := by rw [IntWalk.i64_in _ (by omega)]; omega
    have HF : Hid (∀ (aa : Act), FixPost w1.heap.size (fun W => Has W (w.heap.size + 1) (.cells #[.int .i64 ((4 + sumw (L.take (j + 1)) : Nat) : Int)] 3 (0, 0)) ∧ Has W w.heap.size (.cells #[.pointer (some ⟨R, 0, none⟩)] 171 (0, 0)) ∧ Below w.heap.size w W) W .normal aa (W.setCell ⟨w.heap.size + 1, 0, none⟩ (.int .i64 ((4 + sumw (L.take (j + 1)) : Nat) : Int)))) := by
      intro aa
      refine ⟨rfl, ⟨rfl, rfl, rfl, by simp [World.setCell], fun k hk _ => Below.heap_setCell _ _ _ _ (by show k ≠ w.heap.size + 1; omega)⟩, hb.setSelf _, h0.set (by show w.heap.size ≠ w.heap.size + 1; omega) _, ?_⟩
      exact hB.trans ⟨rfl, rfl, rfl, by simp [World.setCell], fun k hk => Below.heap_setCell _ _ _ _ (by show k ≠ w.heap.size + 1; omega)⟩
    generalize 4 + sumw (L.take (j + 1)) = s1 at *
    generalize 4 + sumw (L.take j) = s0 at *
    obtain ⟨q1, hq1⟩ : ∃ q1, q1 = p.1 := ⟨_, rfl⟩
    obtain ⟨q2, hq2⟩ : ∃ q2, q2 = p.2 := ⟨_, rfl⟩
    rw [← hq1]
    rw [← hq2] at E ⊢
    clear hb h0 hB hpm hp hp2 hp3 hsu hst hsm hq1 hq2 hsz
    gi_wp2
    exact HF.out _
  case done =>
    rintro W ⟨hb, h0, hB⟩ hD
    rw [List.take_length] at hb
    have hz1 := HZ1.out
    have hCW : w.heap.size ≤ W.heap.size := hB.size
    have hDlt : w1.heap.size < W.heap.size := (Array.getElem?_eq_some_iff.1 hD).1
    obtain ⟨sw, hsw⟩ : ∃ sw, sw = 4 + sumw L := ⟨_, rfl⟩
    rw [← hsw] at hb
    obtain ⟨c1, d1⟩ := hb.one
    obtain ⟨c0, d0⟩ := h0.one
    have rW := hB.mono (Nat.le_refl _)
    have R0 : Rs W R t (.slice a len cap) (i : Int) 0 (List.replicate m 0) := HR.out.later hB
    have S0 : Sb W R a len cap bs := HS.out.below hB
    have HN := Lib.hid (need_any R t a len cap bs (i : Int) (List.replicate m 0) sw (by have := HSum.out; omega) W S0 R0)
    have H0 := Lib.hid h0
    have H1 := Lib.hid hb
    have HD := Lib.hid hD
    have HB := Lib.hid hB
    have HS0 := Lib.hid S0
    have hRC : Hid (R < w.heap.size) := hRw
    have HDlt : Hid (w1.heap.size < W.heap.size) := hDlt
    have HSW := Lib.hid hsw
    have hEp : pe len (i : Int) sw = 0 := by
      have h := HI.out ()
      unfold pe
      rw [if_neg (by omega), if_neg (by omega)]
    rw [hEp] at HN
    clear hz1 hCW hDlt hB h0 hb hD R0 S0 rW hRw hsw hEp I0 d1 d0
    have HP := Lib.hid (fun W hS hW => piece_good R t a len cap bs i (List.replicate m 0) 4 (by omega) (by have := HI.out (); omega) W hS hW)
    rw [← HQ.out] at HP
    gi_wp2_with (first | (refine ⟨trivial, ?_⟩; gi_at_call 105; refine (callsIn_wide.2 HN.out).mono ?_; rintro e w2 ⟨rfl, hr2, hl2⟩; have R2 := Lib.hid hr2; have L2 := Lib.hid hl2; have c2 : w2.cell? ⟨w.heap.size, 0, none⟩ = some (.pointer (some ⟨R, 0, none⟩)) := (hl2.has H0.out (Or.inr hRC.out)).one.1; have S2 := Lib.hid (HS0.out.lo hl2); clear hr2 hl2 HN) | (refine ⟨trivial, ?_⟩; gi_at_call 76; refine (callsIn_wide.2 (HP.out _ S2.out R2.out)).mono ?_; rintro e w3 ⟨a2, cap2, rfl, hs3, hr3, hl3⟩; have hcv := string_of w3 a2 4 cap2 q A hs3 HAq; have R3 := Lib.hid hr3; have L3 := Lib.hid hl3; have S3 := Lib.hid (S2.out.lo hl3); have c3 : w3.cell? ⟨w.heap.size, 0, none⟩ = some (.pointer (some ⟨R, 0, none⟩)) := (hl3.has (L2.out.has H0.out (Or.inr hRC.out)) (Or.inr hRC.out)).one.1; clear hs3 hr3 hl3 HP))
    have hz1 := HZ1.out
    have hRCo := hRC.out
    have V0 : Has w3 w.heap.size (.cells #[.pointer (some ⟨R, 0, none⟩)] 171 (0, 0)) := (L3.out.has (L2.out.has H0.out (Or.inr hRC.out)) (Or.inr hRC.out))
    have VD : Has w3 w1.heap.size (.deferred (some [])) := (Lo.has L3.out (Lo.has L2.out (HD.out : Has W w1.heap.size (.deferred (some []))) (Or.inr (by omega))) (Or.inr (by omega)))
    have VL0 : Lr w.heap.size R w W := ⟨HB.out.os, HB.out.tape, HB.out.output, HB.out.size, fun k hk _ => HB.out.block k hk⟩
    have VL1 : Lr w.heap.size R w w2 := VL0.lo L2.out VL0.size (Or.inl ⟨rfl, rfl⟩)
    have VL2 : Lr w.heap.size R w w3 := VL1.lo L3.out VL1.size (Or.inl ⟨rfl, rfl⟩)
    have hDl : w1.heap.size < w3.heap.size := VD.lt
    have J0 : Hid ((fun j W => Rs W R t (.slice a len cap) ((i + 4 + sumw (L.take j) : Nat) : Int) 0 (fill bs (i + 4) (L.take j) (List.replicate m 0)) ∧ Has W w.heap.size (.cells #[.pointer (some ⟨R, 0, none⟩)] 171 (0, 0)) ∧ Sb W R a len cap bs ∧ Lr w.heap.size R w W ∧ Has W w1.heap.size (.deferred (some []))) 0 w3) := ⟨R3.out, V0, S3.out, VL2, VD⟩
    have HZ1' := HZ1
    clear c2 c3 hRCo V0 VD VL0 VL1 VL2 hcv hql hne hml4 hsz H0 H1 HD HB HS0 L2 L3 R2 S2 R3 S3
    refine range_fix (a₁ := fun p => { tmps := #[.pointer (some ⟨R, 0, none⟩), .string M, .func (.func gf) #[.pointer (some ⟨R, 3, none⟩)] #[], .pointer (some ⟨w.heap.size, 0, none⟩), undef, undef, .pointer (some ⟨w.heap.size + 1, 0, none⟩), undef, undef, .pointer (some ⟨R, 3 + p.1, none⟩), .int .i64 p.2, .string M, .int .i64 4, .func (.func gf) #[.pointer (some ⟨R, 3, none⟩)] #[], undef, undef, undef, undef, undef, .pointer (some ⟨R, 0, none⟩), .int .i64 (sw : Int), .tuple #[], .pointer (some ⟨R, 0, none⟩), .string M, .int .i64 4, .slice a2 4 cap2, .string A, .string M, .bool false, undef, undef, .func (.func gf) #[.pointer (some ⟨R, 3, none⟩)] #[], .pointer (some ⟨R, 3 + p.1, none⟩), .int .i64 p.2, undef, undef, undef, undef, undef], defers := [] })
      (gf := gf) (first := #[.pointer (some ⟨R, 3, none⟩)]) (lb := #[]) rfl eg HSEQ.out (fun _ => rfl)
      (fun j W => Rs W R t (.slice a len cap) ((i + 4 + sumw (L.take j) : Nat) : Int) 0 (fill bs (i + 4) (L.take j) (List.replicate m 0)) ∧ Has W w.heap.size (.cells #[.pointer (some ⟨R, 0, none⟩)] 171 (0, 0)) ∧ Sb W R a len cap bs ∧ Lr w.heap.size R w W ∧ Has W w1.heap.size (.deferred (some [])))
      (fun j A C h hl => ⟨hl.rs h.1 (Or.inl (by have := hRC.out; omega)), hl.has h.2.1 (Or.inl (by omega)), h.2.2.1.loo hl (by have := hRC.out; omega), h.2.2.2.1.lo hl h.2.2.2.1.size (Or.inr (by omega)), hl.has h.2.2.2.2 (Or.inl (by omega))⟩) J0.out ?assign ?body ?done
    case assign =>
      intro l p W K hK
      unfold fw fld
      gi_wp2
      exact hK
    case body =>
      rintro l j p W hp ⟨hr, h0, hs, hlr, hd⟩ hsz
      have hRl := hRC.out
      have hpm : p ∈ L := List.mem_of_getElem? hp
      obtain ⟨hp2, hp3, hp4⟩ := HL.out p hpm
      obtain ⟨c0, d0⟩ := h0.one
      have hsu := sumw_succ L j p hp
      have hst := sumw_take L (j + 1)
      have hiL := HI.out ()
      have HNu := Lib.hid (number_ok R t a len cap bs (i + 4 + sumw (L.take j)) (fill bs (i + 4) (L.take j) (List.replicate m 0)) p.2.toNat hp3 (by omega) W hs hr)
      rw [← hp2] at HNu
      have hfl : (fill bs (i + 4) (L.take j) (List.replicate m 0)).length = m := by rw [fill_length, List.length_replicate]
      have hfs := fill_succ bs L j p hp (i + 4) (List.replicate m 0)
      have hpl : i + 4 + sumw (L.take j) + p.2.toNat = i + 4 + sumw (L.take (j + 1)) := by omega
      rw [hpl] at HNu
      rw [hfs]
      generalize fill bs (i + 4) (L.take j) (List.replicate m 0) = F at *
      generalize i + 4 + sumw (L.take (j + 1)) = pl at *
      generalize nm ((bs.drop (i + 4 + sumw (L.take j))).take p.2.toNat) = nv at *
      have HF : Hid (∀ w4, Rs w4 R t (.slice a len cap) (pl : Int) 0 F → Lo R 1 W w4 → ∀ aa : Act, FixPost w3.heap.size (fun W => Rs W R t (.slice a len cap) (pl : Int) 0 (F.set p.1 (nv : Int)) ∧ Has W w.heap.size (.cells #[.pointer (some ⟨R, 0, none⟩)] 171 (0, 0)) ∧ Sb W R a len cap bs ∧ Lr w.heap.size R w W ∧ Has W w1.heap.size (.deferred (some []))) W .normal aa (w4.setCell ⟨R, 3 + p.1, none⟩ (.int .i64 (nv : Int)))) := by
        intro w4 hr4 hl4 aa
        have hle : Lo R 1 W (w4.setCell ⟨R, 3 + p.1, none⟩ (.int .i64 (nv : Int))) := hl4.trans (Lo.setCell _ _ _ _)
        exact ⟨rfl, ⟨hle.os, hle.tape, hle.output, hle.size, fun k hk hk2 => hle.block k hk2 (Or.inr (by omega))⟩, hr4.put p.1 _, hle.has h0 (Or.inr (by omega)), hs.lo hle, hlr.lo hle hlr.size (Or.inl ⟨rfl, rfl⟩), hle.has hd (Or.inr (by omega))⟩
      have HG : Hid (∀ w4, Rs w4 R t (.slice a len cap) (pl : Int) 0 F → w4.cell? ⟨R, 3 + p.1, none⟩ = some (.int .i64 (F[p.1]?.getD 0)) ∧ w4.frozen? ⟨R, 3 + p.1, none⟩ = false) := fun w4 h4 => ⟨h4.field p.1 (by omega), h4.free _⟩
      obtain ⟨q1, hq1⟩ : ∃ q1, q1 = p.1 := ⟨_, rfl⟩
      obtain ⟨q2, hq2⟩ : ∃ q2, q2 = p.2 := ⟨_, rfl⟩
      rw [← hq1] at HF HG ⊢
      rw [← hq2] at HNu ⊢
      clear hr h0 hs hlr hd hpm hp2 hp3 hp4 hp hsu hst hiL hfl hfs hpl hq1 hq2 hsz J0 HSEQ
      gi_wp2_with (refine ⟨trivial, ?_⟩; gi_at_call 106; refine (CallsIn.inRound l (callsIn_wide.2 HNu.out)).mono ?_; rintro e w4 ⟨rfl, hr4, hl4⟩; have R4 := Lib.hid hr4; have L4 := Lib.hid hl4; clear hr4 hl4; obtain ⟨g1, g2⟩ := HG.out _ R4.out; have HF4 := Lib.hid (HF.out _ R4.out L4.out))
      exact HF4.out _
    case done =>
      rintro W9 ⟨hr, h0, hs, hlr, hd⟩ hD2
      have HR9 := Lib.hid hr
      have HS9 := Lib.hid hs
      have HLr := Lib.hid hlr
      have Hd := Lib.hid hd
      have HD2 := Lib.hid hD2
      have hRl := hRC.out
      have HDl := Lib.hid hDl
      clear hr h0 hs hlr hd hD2 J0 HSEQ hDl
      gi_wp2
      refine ⟨by simp, .inl ⟨_, _, rfl, run_takeDeferred HD2.out, ?_⟩⟩
      have hDl := HDl.out
      have P1 := Lo.putObj W9 w3.heap.size (.deferred none)
      have hz1 := HZ1.out
      have D1 : Has (W9.putObj w3.heap.size (.deferred none)) (w.heap.size + 2) (.deferred (some [])) := by
        rw [← HZ1.out]
        exact P1.has Hd.out (Or.inl (by omega))
      refine ⟨by simp, .inl ⟨_, _, rfl, run_takeDeferred D1, ?_⟩⟩
      have P2 := Lo.putObj (W9.putObj w3.heap.size (.deferred none)) (w.heap.size + 2) (.deferred none)
      refine ⟨.tuple #[], by simp [results, Try.results73, go_sem], rfl, ?_, ?_, ?_⟩
      · have h := P2.rs (P1.rs HR9.out (Or.inl (by omega))) (Or.inl (by omega))
        rw [List.take_length] at h
        exact h
      · exact (HS9.out.loo P1 (by omega)).loo P2 (by omega)
      · have q1 := HLr.out.lo P1 HLr.out.size (Or.inr (by omega))
        exact (q1.lo P2 q1.size (Or.inr (by omega))).to

set_option maxRecDepth 100000 in
set_option maxHeartbeats 4000000 in
theorem header_mark (gf R m : Nat) (t : TypeId) (L : List (Nat × Int)) (hseq : SeqFix Try.prog gf #[.pointer (some ⟨R, 3, none⟩)] #[] (L.map (fw R 3))) (eg : ∀ args w, (callFunc gf args).run Try.prog w = .ok (.enter gf args) w)
    (hL : ∀ p ∈ L, p.2 = (p.2.toNat : Int) ∧ (p.2.toNat = 2 ∨ p.2.toNat = 4) ∧ p.1 < m) (hsum : sumw L ≤ 900) (mk : List Nat) (hmk : ∀ x ∈ mk, x < 256) (hml : mk.length = 4) (w : World)
    (a : Option Addr) (len cap : Nat) (bs : List Nat) (i : Nat) (hs : Sb w R a len cap bs) (hr : Rs w R t (.slice a len cap) (i : Int) 0 (List.replicate m 0)) (hi : i + (4 + sumw L) ≤ len) (hE : (bs.drop i).take 4 ≠ mk) :
    CallsIn Fence.wide 9 Try.prog 73 #[.pointer (some ⟨R, 0, none⟩), .string (strB mk), .func (.func gf) #[.pointer (some ⟨R, 3, none⟩)] #[]] w fun e w' =>
      e = .returned (.tuple #[]) ∧ Rs w' R t (.slice a len cap) ((i + 4 : Nat) : Int) 15 (List.replicate m 0) ∧ Sb w' R a len cap bs ∧ Lo R 1 w w' := by
  have hRw : R < w.heap.size := Has.lt hr
  have hsz := strB_size mk
  have hml4 := strB_list mk
  rw [hml] at hsz
  obtain ⟨ml, hmle⟩ : ∃ ml, mk.map UInt8.ofNat = ml := ⟨_, rfl⟩
  rw [hmle] at hml4
  have hlen := hs.1.len.1
  have hlen2 := hs.1.len.2.1
  obtain ⟨q, hq⟩ : ∃ q, q = (bs.drop i).take 4 := ⟨_, rfl⟩
  rw [← hq] at hE
  have hq8 : ∀ x ∈ q, x < 256 := fun x hx => hs.1.bytes x (by rw [hq] at hx; exact List.mem_of_mem_drop (List.mem_of_mem_take hx))
  have hql := strB_list q
  have hne : (q.map UInt8.ofNat == ml) = false := by
    rw [← hmle, beq_eq_false_iff_ne]
    intro h
    refine hE (strB_inj hq8 hmk (ba_ext ?_))
    rw [strB_data, strB_data]
    exact h
  obtain ⟨ql, hqle⟩ : ∃ ql, q.map UInt8.ofNat = ql := ⟨_, rfl⟩
  rw [hqle] at hql hne
  obtain ⟨A, hA⟩ : ∃ A, A = strB q := ⟨_, rfl⟩
  rw [← hA] at hql
  obtain ⟨M, hM⟩ : ∃ M, M = strB mk := ⟨_, rfl⟩
  rw [← hM] at hml4 hsz ⊢
  have HSEQ := Lib.hid hseq
  have HL := Lib.hid hL
  have HSum : Hid (sumw L ≤ 900) := hsum
  have HS := Lib.hid hs
  have HR := Lib.hid hr
  have HE := Lib.hid hE
  have HI := Lib.hid (fun _ : Unit => hi)
  have HQ := Lib.hid hq
  have HAq := Lib.hid hA
  have HLen := Lib.hid (fun _ : Unit => hlen2)
  clear hseq hL hsum hs hr hmk hml hmle hM hE hi hq hA hlen hlen2 hqle hq8
  refine callsIn_of_wp_marks Try.func73 rfl trivial ?_ rfl
  simp only [Try.ntmps73, List.size_toArray, List.length_cons, List.length_nil, Nat.reduceAdd, Nat.reduceSub, Array.replicate_succ, Array.replicate_zero, List.push_toArray, List.append_toArray, List.nil_append, List.cons_append]
  gi_wp2
  obtain ⟨w1, hw1⟩ : ∃ w1, w1 = (w.alloc (.cells #[.pointer (some ⟨R, 0, none⟩)] 171)).alloc (.cells #[.int .i64 4] 3) := ⟨_, rfl⟩
  have hz1 : w1.heap.size = w.heap.size + 2 := by rw [hw1]; simp
  have b0 : Has w1 w.heap.size (.cells #[.pointer (some ⟨R, 0, none⟩)] 171 (0, 0)) := by rw [hw1]; exact (Has.new w _).alloc _
  have b1 : Has w1 (w.heap.size + 1) (.cells #[.int .i64 4] 3 (0, 0)) := by
    have := Has.new (w.alloc (.cells #[.pointer (some ⟨R, 0, none⟩)] 171)) (.cells #[.int .i64 4] 3)
    rw [World.size_alloc] at this
    rw [hw1]; exact this
  have hB1 : Below w.heap.size w w1 := by rw [hw1]; exact below2 w _ _
  rw [← hw1]
  have I0 : Hid (Has w1 (w.heap.size + 1) (.cells #[.int .i64 ((4 + sumw (L.take 0) : Nat) : Int)] 3 (0, 0)) ∧ Has w1 w.heap.size (.cells #[.pointer (some ⟨R, 0, none⟩)] 171 (0, 0)) ∧ Below w.heap.size w w1) := ⟨b1, b0, hB1⟩
  clear hw1 b0 b1 hB1
  have HZ1 := Lib.hid hz1
  refine range_fix (a₁ := fun p => { tmps := #[.pointer (some ⟨R, 0, none⟩), .string M, .func (.func gf) #[.pointer (some ⟨R, 3, none⟩)] #[], .pointer (some ⟨w.heap.size, 0, none⟩), undef, undef, .pointer (some ⟨w.heap.size + 1, 0, none⟩), undef, .int .i64 p.2, undef, undef, .string M, .int .i64 4, .func (.func gf) #[.pointer (some ⟨R, 3, none⟩)] #[], .pointer (some ⟨R, 3 + p.1, none⟩), .int .i64 p.2, undef, undef, undef, undef, undef, undef, undef, undef, undef, undef, undef, undef, undef, undef, undef, undef, undef, undef, undef, undef, undef, undef, undef], defers := [] })
    (gf := gf) (first := #[.pointer (some ⟨R, 3, none⟩)]) (lb := #[]) rfl eg HSEQ.out (fun _ => rfl)
    (fun i W => Has W (w.heap.size + 1) (.cells #[.int .i64 ((4 + sumw (L.take i) : Nat) : Int)] 3 (0, 0)) ∧ Has W w.heap.size (.cells #[.pointer (some ⟨R, 0, none⟩)] 171 (0, 0)) ∧ Below w.heap.size w W)
    (fun i A C h hl => ⟨hl.has h.1 (Or.inl (by omega)), hl.has h.2.1 (Or.inl (by omega)), hl.below h.2.2 (by omega) h.2.2.size⟩) I0.out ?assign ?body ?done
  case assign =>
    intro l p W K hK
    unfold fw fld
    gi_wp2
    exact hK
  case body =>
    rintro l j p W hp ⟨hb, h0, hB⟩ hsz
    have hpm : p ∈ L := List.mem_of_getElem? hp
    obtain ⟨hp2, hp3, _⟩ := HL.out p hpm
    have hsu := sumw_succ L j p hp
    have hst := sumw_take L (j + 1)
    have hsm := HSum.out
    obtain ⟨c1, d1⟩ := hb.one
    have E : IntKind.i64.wrap (((4 + sumw (L.take j) : Nat) : Int) + p.2) = ((4 + sumw (L.take (j + 1)) : Nat) : Int) := by rw [IntWalk.i64_in _ (by omega)]; omega
    have HF : Hid (∀ (aa : Act), FixPost w1.heap.size (fun W => Has W (w.heap.size + 1) (.cells #[.int .i64 ((4 + sumw (L.take (j + 1)) : Nat) : Int)] 3 (0, 0)) ∧ Has W w.heap.size (.cells #[.pointer (some ⟨R, 0, none⟩)] 171 (0, 0)) ∧ Below w.heap.size w W) W .normal aa (W.setCell ⟨w.heap.size + 1, 0, none⟩ (.int .i64 ((4 + sumw (L.take (j + 1)) : Nat) : Int)))) := by
      intro aa
      refine ⟨rfl, ⟨rfl, rfl, rfl, by simp [World.setCell], fun k hk _ => Below.heap_setCell _ _ _ _ (by show k ≠ w.heap.size + 1; omega)⟩, hb.setSelf _, h0.set (by show w.heap.size ≠ w.heap.size + 1; omega) _, ?_⟩
      exact hB.trans ⟨rfl, rfl, rfl, by simp [World.setCell], fun k hk => Below.heap_setCell _ _ _ _ (by show k ≠ w.heap.size + 1; omega)⟩
    generalize 4 + sumw (L.take (j + 1)) = s1 at *
    generalize 4 + sumw (L.take j) = s0 at *
    obtain ⟨q1, hq1⟩ : ∃ q1, q1 = p.1 := ⟨_, rfl⟩
    obtain ⟨q2, hq2⟩ : ∃ q2, q2 = p.2 := ⟨_, rfl⟩
    rw [← hq1]
    rw [← hq2] at E ⊢
    clear hb h0 hB hpm hp hp2 hp3 hsu hst hsm hq1 hq2 hsz
    gi_wp2
    exact HF.out _
  case done =>
    rintro W ⟨hb, h0, hB⟩ hD
    rw [List.take_length] at hb
    have hz1 := HZ1.out
    have hCW : w.heap.size ≤ W.heap.size := hB.size
    have hDlt : w1.heap.size < W.heap.size := (Array.getElem?_eq_some_iff.1 hD).1
    obtain ⟨sw, hsw⟩ : ∃ sw, sw = 4 + sumw L := ⟨_, rfl⟩
    rw [← hsw] at hb
    obtain ⟨c1, d1⟩ := hb.one
    obtain ⟨c0, d0⟩ := h0.one
    have rW := hB.mono (Nat.le_refl _)
    have R0 : Rs W R t (.slice a len cap) (i : Int) 0 (List.replicate m 0) := HR.out.later hB
    have S0 : Sb W R a len cap bs := HS.out.below hB
    have HN := Lib.hid (need_any R t a len cap bs (i : Int) (List.replicate m 0) sw (by have := HSum.out; omega) W S0 R0)
    have H0 := Lib.hid h0
    have H1 := Lib.hid hb
    have HD := Lib.hid hD
    have HB := Lib.hid hB
    have HS0 := Lib.hid S0
    have hRC : Hid (R < w.heap.size) := hRw
    have HDlt : Hid (w1.heap.size < W.heap.size) := hDlt
    have HSW := Lib.hid hsw
    have hEp : pe len (i : Int) sw = 0 := by
      have h := HI.out ()
      unfold pe
      rw [if_neg (by omega), if_neg (by omega)]
    rw [hEp] at HN
    clear hz1 hCW hDlt hB h0 hb hD R0 S0 rW hRw hsw hEp I0 d1 d0
    have HP := Lib.hid (fun W hS hW => piece_good R t a len cap bs i (List.replicate m 0) 4 (by omega) (by have := HI.out (); omega) W hS hW)
    rw [← HQ.out] at HP
    have HRf := Lib.hid (fun W hW => refuse_first R t (.slice a len cap) ((i + 4 : Nat) : Int) (List.replicate m 0) 15 W hW)
    gi_wp2_with (first | (refine ⟨trivial, ?_⟩; gi_at_call 105; refine (callsIn_wide.2 HN.out).mono ?_; rintro e w2 ⟨rfl, hr2, hl2⟩; have R2 := Lib.hid hr2; have L2 := Lib.hid hl2; have c2 : w2.cell? ⟨w.heap.size, 0, none⟩ = some (.pointer (some ⟨R, 0, none⟩)) := (hl2.has H0.out (Or.inr hRC.out)).one.1; have S2 := Lib.hid (HS0.out.lo hl2); clear hr2 hl2 HN) | (refine ⟨trivial, ?_⟩; gi_at_call 76; refine (callsIn_wide.2 (HP.out _ S2.out R2.out)).mono ?_; rintro e w3 ⟨a2, cap2, rfl, hs3, hr3, hl3⟩; have hcv := string_of w3 a2 4 cap2 q A hs3 HAq; have R3 := Lib.hid hr3; have L3 := Lib.hid hl3; have S3 := Lib.hid (S2.out.lo hl3); have c3 : w3.cell? ⟨w.heap.size, 0, none⟩ = some (.pointer (some ⟨R, 0, none⟩)) := (hl3.has (L2.out.has H0.out (Or.inr hRC.out)) (Or.inr hRC.out)).one.1; clear hs3 hr3 hl3 HP) | (refine ⟨trivial, ?_⟩; gi_at_call 75; refine (callsIn_wide.2 (HRf.out _ R3.out)).mono ?_; rintro e w4 ⟨rfl, hr4, hl4, hz4⟩; have R4 := Lib.hid hr4; have L4 := Lib.hid hl4; have S4 := Lib.hid (S3.out.lo hl4); have c4 : w4.cell? ⟨w.heap.size, 0, none⟩ = some (.pointer (some ⟨R, 0, none⟩)) := (hl4.has (L3.out.has (L2.out.has H0.out (Or.inr hRC.out)) (Or.inr hRC.out)) (Or.inr hRC.out)).one.1; clear hr4 hl4 hz4 HRf))
    have hz1 := HZ1.out
    have hRCo := hRC.out
    have V0 : Has w4 w.heap.size (.cells #[.pointer (some ⟨R, 0, none⟩)] 171 (0, 0)) := (L4.out.has (L3.out.has (L2.out.has H0.out (Or.inr hRC.out)) (Or.inr hRC.out)) (Or.inr hRC.out))
    have VD : Has w4 w1.heap.size (.deferred (some [])) := (Lo.has L4.out (Lo.has L3.out (Lo.has L2.out (HD.out : Has W w1.heap.size (.deferred (some []))) (Or.inr (by omega))) (Or.inr (by omega))) (Or.inr (by omega)))
    have VL0 : Lr w.heap.size R w W := ⟨HB.out.os, HB.out.tape, HB.out.output, HB.out.size, fun k hk _ => HB.out.block k hk⟩
    have VL1 : Lr w.heap.size R w w2 := VL0.lo L2.out VL0.size (Or.inl ⟨rfl, rfl⟩)
    have VL2 : Lr w.heap.size R w w3 := VL1.lo L3.out VL1.size (Or.inl ⟨rfl, rfl⟩)
    have VL3 : Lr w.heap.size R w w4 := VL2.lo L4.out VL2.size (Or.inl ⟨rfl, rfl⟩)
    have hDl : w1.heap.size < w4.heap.size := VD.lt
    have J0 : Hid ((fun _ W => Rs W R t (.slice a len cap) ((i + 4 : Nat) : Int) 15 (List.replicate m 0) ∧ Has W w.heap.size (.cells #[.pointer (some ⟨R, 0, none⟩)] 171 (0, 0)) ∧ Sb W R a len cap bs ∧ Lr w.heap.size R w W ∧ Has W w1.heap.size (.deferred (some []))) 0 w4) := ⟨R4.out, V0, S4.out, VL3, VD⟩
    have HZ1' := HZ1
    clear c2 c3 c4 hRCo V0 VD VL0 VL1 VL2 VL3 hcv hql hne hml4 hsz H0 H1 HD HB HS0 L2 L3 L4 R2 S2 R3 S3 R4 S4
    refine range_fix (a₁ := fun p => { tmps := #[.pointer (some ⟨R, 0, none⟩), .string M, .func (.func gf) #[.pointer (some ⟨R, 3, none⟩)] #[], .pointer (some ⟨w.heap.size, 0, none⟩), undef, undef, .pointer (some ⟨w.heap.size + 1, 0, none⟩), undef, undef, .pointer (some ⟨R, 3 + p.1, none⟩), .int .i64 p.2, .string M, .int .i64 4, .func (.func gf) #[.pointer (some ⟨R, 3, none⟩)] #[], undef, undef, undef, undef, undef, .pointer (some ⟨R, 0, none⟩), .int .i64 (sw : Int), .tuple #[], .pointer (some ⟨R, 0, none⟩), .string M, .int .i64 4, .slice a2 4 cap2, .string A, .string M, .bool true, .pointer (some ⟨R, 0, none⟩), .tuple #[], .func (.func gf) #[.pointer (some ⟨R, 3, none⟩)] #[], .pointer (some ⟨R, 3 + p.1, none⟩), .int .i64 p.2, undef, undef, undef, undef, undef], defers := [] })
      (gf := gf) (first := #[.pointer (some ⟨R, 3, none⟩)]) (lb := #[]) rfl eg HSEQ.out (fun _ => rfl)
      (fun _ W => Rs W R t (.slice a len cap) ((i + 4 : Nat) : Int) 15 (List.replicate m 0) ∧ Has W w.heap.size (.cells #[.pointer (some ⟨R, 0, none⟩)] 171 (0, 0)) ∧ Sb W R a len cap bs ∧ Lr w.heap.size R w W ∧ Has W w1.heap.size (.deferred (some [])))
      (fun j A C h hl => ⟨hl.rs h.1 (Or.inl (by have := hRC.out; omega)), hl.has h.2.1 (Or.inl (by omega)), h.2.2.1.loo hl (by have := hRC.out; omega), h.2.2.2.1.lo hl h.2.2.2.1.size (Or.inr (by omega)), hl.has h.2.2.2.2 (Or.inl (by omega))⟩) J0.out ?assign ?body ?done
    case assign =>
      intro l p W K hK
      unfold fw fld
      gi_wp2
      exact hK
    case body =>
      rintro l j p W hp ⟨hr, h0, hs, hlr, hd⟩ hsz
      have hRl := hRC.out
      have hpm : p ∈ L := List.mem_of_getElem? hp
      obtain ⟨hp2, hp3, hp4⟩ := HL.out p hpm
      obtain ⟨c0, d0⟩ := h0.one
      have HNu := Lib.hid (number_fault R t (.slice a len cap) ((i + 4 : Nat) : Int) 15 (List.replicate m 0) p.2 (by decide) W hr)
      have hfl : (List.replicate m (0 : Int)).length = m := List.length_replicate
      have hzs := zeros_set m p.1
      have HF : Hid (∀ aa : Act, FixPost w4.heap.size (fun W => Rs W R t (.slice a len cap) ((i + 4 : Nat) : Int) 15 (List.replicate m 0) ∧ Has W w.heap.size (.cells #[.pointer (some ⟨R, 0, none⟩)] 171 (0, 0)) ∧ Sb W R a len cap bs ∧ Lr w.heap.size R w W ∧ Has W w1.heap.size (.deferred (some []))) W .normal aa (W.setCell ⟨R, 3 + p.1, none⟩ (.int .i64 0))) := by
        intro aa
        have hle : Lo R 1 W (W.setCell ⟨R, 3 + p.1, none⟩ (.int .i64 0)) := Lo.setCell _ _ _ _
        have hput := hr.put p.1 0
        rw [hzs] at hput
        exact ⟨rfl, ⟨hle.os, hle.tape, hle.output, hle.size, fun k hk hk2 => hle.block k hk2 (Or.inr (by omega))⟩, hput, hle.has h0 (Or.inr (by omega)), hs.lo hle, hlr.lo hle hlr.size (Or.inl ⟨rfl, rfl⟩), hle.has hd (Or.inr (by omega))⟩
      have g1 := hr.field p.1 (by omega)
      have g2 := hr.free (3 + p.1)
      generalize ((List.replicate m (0 : Int))[p.1]?.getD 0) = gz at g1
      obtain ⟨q1, hq1⟩ : ∃ q1, q1 = p.1 := ⟨_, rfl⟩
      obtain ⟨q2, hq2⟩ : ∃ q2, q2 = p.2 := ⟨_, rfl⟩
      rw [← hq1] at HF g1 g2 ⊢
      rw [← hq2] at HNu ⊢
      clear hr h0 hs hlr hd hpm hp2 hp3 hp4 hp hfl hzs hq1 hq2 hsz J0 HSEQ
      gi_wp2_with (refine ⟨trivial, ?_⟩; gi_at_call 106; refine (CallsIn.inRound l (callsIn_wide.2 HNu.out)).mono ?_; rintro e w4 ⟨rfl, rfl⟩)
      exact HF.out _
    case done =>
      rintro W9 ⟨hr, h0, hs, hlr, hd⟩ hD2
      have HR9 := Lib.hid hr
      have HS9 := Lib.hid hs
      have HLr := Lib.hid hlr
      have Hd := Lib.hid hd
      have HD2 := Lib.hid hD2
      have hRl := hRC.out
      have HDl := Lib.hid hDl
      clear hr h0 hs hlr hd hD2 J0 HSEQ hDl
      gi_wp2
      refine ⟨by simp, .inl ⟨_, _, rfl, run_takeDeferred HD2.out, ?_⟩⟩
      have hDl := HDl.out
      have P1 := Lo.putObj W9 w4.heap.size (.deferred none)
      have hz1 := HZ1.out
      have D1 : Has (W9.putObj w4.heap.size (.deferred none)) (w.heap.size + 2) (.deferred (some [])) := by
        rw [← HZ1.out]
        exact P1.has Hd.out (Or.inl (by omega))
      refine ⟨by simp, .inl ⟨_, _, rfl, run_takeDeferred D1, ?_⟩⟩
      have P2 := Lo.putObj (W9.putObj w4.heap.size (.deferred none)) (w.heap.size + 2) (.deferred none)
      refine ⟨.tuple #[], by simp [results, Try.results73, go_sem], rfl, ?_, ?_, ?_⟩
      · exact P2.rs (P1.rs HR9.out (Or.inl (by omega))) (Or.inl (by omega))
      · exact (HS9.out.loo P1 (by omega)).loo P2 (by omega)
      · have q1 := HLr.out.lo P1 HLr.out.size (Or.inr (by omega))
        exact (q1.lo P2 q1.size (Or.inr (by omega))).to

end Go.Proofs.Ytillckjohlbaiaa
