/- Contract of (*headReader).read: a fault behind the mark and the numbers, numbers that may not be, a name that is not whole, a record. -/
import Derived.Test.YtillckjohlbaiaaNmay
import Derived.Test.YtillckjohlbaiaaNhdr

namespace Go.Proofs.Ytillckjohlbaiaa
set_option maxRecDepth 100000
open Go.RowKit

theorem results_cell_tt {P : Program} {fn : Func} {p s u : Tmp} {ty : TypeId} (h : fn.results = #[.cell p ty, .tmp s, .tmp u]) (tmps : Array Value) (w : World) (g : Nat) (t : TypeId) (cs : Array Value) (fr : Nat × Nat) (d : TypeDesc)
    (hp : tmps.getD p undef = .pointer (some ⟨g, 0, none⟩)) (hg : w.heap[g]? = some (.cells cs t fr))
    (hu : P.underlying ty = some d) (hd : (match d with | .struct _ | .array _ _ => true | _ => false) = true) (hi : (P.info? ty).map (·.size) = some cs.size) :
    (results fn tmps).run P w = .ok (.tuple #[.agg cs, tmps.getD s undef, tmps.getD u undef]) w := by
  have hp' : tmps[p]?.getD undef = .pointer (some ⟨g, 0, none⟩) := by simpa using hp
  simp [results, h, hp', asAddr, run_loadVar_row w g t ty cs fr d hg hu hd hi]

theorem setrow_rs (w : World) (B R : Nat) (hR : R < B) (t0 : TypeId) (old new : Array Value) (h : Has w B (.cells old t0 (0, 0))) :
    (w.setRow B new).heap[B]? = some (.cells new t0 (0, 0)) ∧ (∀ t b pl f F, Rs w R t b pl f F → Rs (w.setRow B new) R t b pl f F) ∧ ∀ A : World, A.heap.size = B → Lr A.heap.size R A w → Lo R 1 A (w.setRow B new) :=
  ⟨setRow_heap w B old new t0 _ h, fun _ _ _ _ _ hr => (setRow_other w B R new (by omega)).trans hr, fun A hA hl => ⟨hl.os, hl.tape, hl.output, by have := hl.size; simpa [World.setRow] using this, fun k hk hb => (setRow_other w B k new (by omega)).trans (hl.block k hk (by omega))⟩⟩
theorem Lr.drew {C R : Nat} {A w : World} (h : Lr C R A w) (_hC : A.heap.size ≤ w.heap.size) : Lr C R A w.drew := ⟨h.os, h.tape, h.output, h.size, h.block⟩
/-- The numbers of a header that nothing was read of. -/
abbrev z16 : List Int := [0, 0, 0, 0, 0, 0, 0, 0, 0, 0, 0, 0, 0, 0, 0, 0]
theorem z16_is : List.replicate 16 (0 : Int) = z16 := rfl

set_option maxHeartbeats 4000000 in
theorem read_fault (R : Nat) (t : TypeId) (M : ByteArray) (FV : Value) (a : Option Addr) (len cap : Nat) (bs : List Nat) (i : Int) (pl f : Int) (hf : (f == 0) = false) (w : World)
    (hdr : ∀ W, Sb W R a len cap bs → Rs W R t (.slice a len cap) i 0 z16 → Calls Try.prog 73 #[.pointer (some ⟨R, 0, none⟩), .string M, FV] W fun e w' => e = .returned (.tuple #[]) ∧ Rs w' R t (.slice a len cap) pl f z16 ∧ Sb w' R a len cap bs ∧ Lo R 1 W w')
    (hs : Sb w R a len cap bs) (hr : Rs w R t (.slice a len cap) i 0 z16) :
    Calls Try.prog 37 #[.pointer (some ⟨R, 0, none⟩), .string M, FV] w fun e w' => e = .returned (.tuple #[.agg #[.string ⟨#[]⟩, .int .i64 0, .int .i64 0, .int .i64 0, .int .i64 0, .int .i64 0], .int .i64 0, .int .i64 f]) ∧ Lo R 1 w w' := by
  have hRw := Has.lt hr
  have hi : (Try.prog.info? 25).map (·.size) = some 6 := by kernel_rfl
  have b1 := below1 w (.cells #[.string ⟨#[]⟩, .int .i64 0, .int .i64 0, .int .i64 0, .int .i64 0, .int .i64 0] 25)
  have HD := Lib.hid (hdr _ (hs.lo (Lo.of_below b1)) (hr.later b1))
  have HB1 := Lib.hid b1
  have HN := Lib.hid (Has.new w (.cells #[.string ⟨#[]⟩, .int .i64 0, .int .i64 0, .int .i64 0, .int .i64 0, .int .i64 0] 25))
  have HRw : Hid (R < w.heap.size) := hRw
  have hm : mbH 0 0 0 0 0 0 0 = false := by decide
  have hfn : (f != 0) = true := by simp only [bne, hf]; rfl
  have HM := Lib.hid (fun W hW => mayBe_any R t (.slice a len cap) pl f 0 0 0 0 0 0 0 0 0 0 0 0 0 0 0 0 W hW)
  rw [hm] at HM
  have HRf := Lib.hid (fun W hW => refuse_more R t (.slice a len cap) pl f z16 15 hf W hW)
  have HP := Lib.hid (fun W hW => piece_fault R t (.slice a len cap) pl f z16 0 hfn W hW)
  clear hdr hs hr hRw b1 hm
  go_enter Try.func37, Try.ntmps37
  go_wp2_with (first | (go_at_call 73; refine HD.out.mono ?_; rintro e w2 ⟨rfl, hr2, hs2, hl2⟩; have R2 := Lib.hid hr2; have S2 := Lib.hid hs2; have L2 := Lib.hid (((Lr.refl w.heap.size R w).lo (Lo.of_below (b := w.heap.size) (m := 0) HB1.out) (Nat.le_refl _) (Or.inr (Nat.le_refl _))).lo hl2 HB1.out.size (Or.inl ⟨rfl, rfl⟩)); have N2 := Lib.hid (hl2.has HN.out (Or.inr (by have := HRw.out; omega))); clear hr2 hs2 hl2 HD) | (go_at_call 74; refine (HM.out _ R2.out).mono ?_; rintro e w3 ⟨rfl, rfl⟩; clear HM) | (go_at_call 75; refine (HRf.out _ R2.out).mono ?_; rintro e w4 ⟨rfl, rfl⟩; clear HRf))
  have R5 := Lib.hid (R2.out.later (Below.refl w2.heap.size w2).drew)
  have g12 := (R5.out.field 9 (by simp) : _ = some (Value.int .i64 0))
  obtain ⟨g0, g1, g2⟩ := R5.out.cells
  have N5 := Lib.hid (Has.later N2.out (Below.refl w2.heap.size w2).drew)
  have L5 := Lib.hid (L2.out.drew L2.out.size)
  clear R2 L2 N2
  go_region_held3 (fun w' => w'.cell? ⟨R, 12, none⟩ = some (.int .i64 0)) (first | (exact g12) | (exact g12')) (first | (go_at_call 76; refine (HP.out _ R5.out).mono ?_; rintro e w6 ⟨rfl, rfl⟩; clear HP))
  go_wp2_with fail
  obtain ⟨V, hV⟩ : ∃ V, V = w2.drew := ⟨_, rfl⟩
  rw [← hV] at R5 N5 L5 ⊢
  have N6 := Lib.hid (Has.later N5.out (Below.refl V.heap.size V).drew)
  have L6 := Lib.hid (L5.out.drew L5.out.size)
  have R6 := R5.out.later (Below.refl V.heap.size V).drew
  obtain ⟨h0, h1, h2⟩ := R6.cells
  have RW := setrow_rs V.drew w.heap.size R HRw.out 25 _ #[.string ⟨#[]⟩, .int .i64 0, .int .i64 0, .int .i64 0, .int .i64 0, .int .i64 0] N6.out
  have i2 := (RW.2.1 t _ _ _ _ R6).cells.2.2
  have HRW := Lib.hid (⟨RW.1, RW.2.2 w rfl L6.out⟩ : _ ∧ _)
  clear hV g0 g1 g2 g12 R5 N5 L5 R6 h0 h1 RW
  refine wp_region_held_drew (S := fun w' => w'.cell? ⟨R, 2, none⟩ = some (.int .i64 f)) (by kernel_rfl) h2 (fun _ => ?_)
  change wpAnyH _ _ _ _ _ 9 (Array.replicate 9 false) _ _

  refine wpAnyH_take (i := 0) (v := ?_) rfl (by kernel_rfl) (by kernel_rfl) (by kernel_rfl) (fun _ _ _ h => h) (Or.inl ⟨rfl, ?hy0⟩) h2 ?_
  case hy0 => intro w' hw'; clear hw'; go_simp; first | done | rfl
  try simp only [Act.put, List.getElem_toArray, List.getElem_cons_zero, List.setIfInBounds_toArray, List.set_cons_zero, List.set_cons_succ]

  refine wpAnyH_take (i := 1) (v := ?_) rfl (by kernel_rfl) (by kernel_rfl) (by kernel_rfl) (fun _ _ _ h => h) (Or.inl ⟨rfl, ?hy1⟩) h2 ?_
  case hy1 => intro w' hw'; clear hw'; go_simp; first | done | rfl
  try simp only [Act.put, List.getElem_toArray, List.getElem_cons_zero, List.getElem_cons_succ, List.setIfInBounds_toArray, List.set_cons_zero, List.set_cons_succ]

  refine wpAnyH_take (i := 2) (v := ?_) rfl (by kernel_rfl) (by kernel_rfl) (by kernel_rfl) (fun _ _ _ h => h) (Or.inl ⟨rfl, ?hy2⟩) h2 ?_
  case hy2 => intro w' hw'; clear hw'; go_simp; first | done | rfl
  try simp only [Act.put, List.getElem_toArray, List.getElem_cons_zero, List.getElem_cons_succ, List.setIfInBounds_toArray, List.set_cons_zero, List.set_cons_succ]

  refine wpAnyH_take (i := 3) (v := ?_) rfl (by kernel_rfl) (by kernel_rfl) (by kernel_rfl) (fun _ _ _ h => h) (Or.inl ⟨rfl, ?hy3⟩) h2 ?_
  case hy3 => intro w' hw'; clear hw'; go_simp; first | done | rfl
  try simp only [Act.put, List.getElem_toArray, List.getElem_cons_zero, List.getElem_cons_succ, List.setIfInBounds_toArray, List.set_cons_zero, List.set_cons_succ]

  refine wpAnyH_take (i := 4) (v := ?_) rfl (by kernel_rfl) (by kernel_rfl) (by kernel_rfl) (fun _ _ _ h => h) (Or.inl ⟨rfl, ?hy4⟩) h2 ?_
  case hy4 => intro w' hw'; clear hw'; go_simp; first | done | rfl
  try simp only [Act.put, List.getElem_toArray, List.getElem_cons_zero, List.getElem_cons_succ, List.setIfInBounds_toArray, List.set_cons_zero, List.set_cons_succ]

  refine wpAnyH_take (i := 5) (v := ?_) rfl (by kernel_rfl) (by kernel_rfl) (by kernel_rfl) (fun _ _ _ h => h) (Or.inl ⟨rfl, ?hy5⟩) h2 ?_
  case hy5 => intro w' hw'; have hw2' := hw'; clear hw'; go_simp; first | done | rfl
  try simp only [Act.put, List.getElem_toArray, List.getElem_cons_zero, List.getElem_cons_succ, List.setIfInBounds_toArray, List.set_cons_zero, List.set_cons_succ]

  refine wpAnyH_ready (rs := [6]) (by kernel_rfl) (by simp) ?_
  refine AllReadyH.cons rfl (fun K hK => ?_) AllReadyH.nil
  rw [if_pos (by rfl)]
  refine wp_store_row 25 _ _ rfl w.heap.size #[.string ⟨#[]⟩, .int .i64 0, .int .i64 0, .int .i64 0, .int .i64 0, .int .i64 0] rfl rfl 25 _ N6.out hi rfl (by simp [Value.oneCell']) ?_
  refine hK.out _ _ i2 (fun _ => ?_)
  clear hK K
  try simp only [Act.put, List.getElem_toArray, List.getElem_cons_zero, List.getElem_cons_succ]

  refine wpAnyH_take (i := 7) (v := ?_) rfl (by kernel_rfl) (by kernel_rfl) (by kernel_rfl) (fun _ _ _ h => h) (Or.inl ⟨rfl, ?hy7⟩) i2 ?_
  case hy7 => intro w' hw'; clear hw'; go_simp; first | done | rfl
  try simp only [Act.put, List.getElem_toArray, List.getElem_cons_zero, List.getElem_cons_succ, List.setIfInBounds_toArray, List.set_cons_zero, List.set_cons_succ]
  refine wpAnyH_take (i := 8) (v := ?_) rfl (by kernel_rfl) (by kernel_rfl) (by kernel_rfl) (fun _ _ _ h => h) (Or.inl ⟨rfl, ?hy8⟩) i2 ?_
  case hy8 => intro w' hw'; clear hw'; go_simp; first | done | rfl
  try simp only [Act.put, List.getElem_toArray, List.getElem_cons_zero, List.getElem_cons_succ, List.setIfInBounds_toArray, List.set_cons_zero, List.set_cons_succ]

  refine wpAnyH_done (by kernel_rfl) ?_ _
  go_wp2
  refine bodyPost_ret (results_cell_tt rfl _ _ w.heap.size 25 _ (0, 0) _ rfl HRW.out.1 Try.underlying25 rfl hi) rfl ⟨rfl, HRW.out.2⟩

set_option maxHeartbeats 4000000 in
theorem read_format (R : Nat) (t : TypeId) (M : ByteArray) (FV : Value) (a : Option Addr) (len cap : Nat) (bs : List Nat) (i : Int) (pl x0 x1 x2 x3 x4 x5 x6 x7 x8 x9 x10 x11 x12 x13 x14 x15 : Int) (hm : mbH x1 x2 x3 x9 x10 x11 x12 = false) (w : World)
    (hdr : ∀ W, Sb W R a len cap bs → Rs W R t (.slice a len cap) i 0 z16 → Calls Try.prog 73 #[.pointer (some ⟨R, 0, none⟩), .string M, FV] W fun e w' => e = .returned (.tuple #[]) ∧ Rs w' R t (.slice a len cap) pl 0 [x0, x1, x2, x3, x4, x5, x6, x7, x8, x9, x10, x11, x12, x13, x14, x15] ∧ Sb w' R a len cap bs ∧ Lo R 1 W w')
    (hs : Sb w R a len cap bs) (hr : Rs w R t (.slice a len cap) i 0 z16) :
    Calls Try.prog 37 #[.pointer (some ⟨R, 0, none⟩), .string M, FV] w fun e w' => e = .returned (.tuple #[.agg #[.string ⟨#[]⟩, .int .i64 0, .int .i64 0, .int .i64 0, .int .i64 0, .int .i64 0], .int .i64 0, .int .i64 15]) ∧ Lo R 1 w w' := by
  have hRw := Has.lt hr
  have hi : (Try.prog.info? 25).map (·.size) = some 6 := by kernel_rfl
  have b1 := below1 w (.cells #[.string ⟨#[]⟩, .int .i64 0, .int .i64 0, .int .i64 0, .int .i64 0, .int .i64 0] 25)
  have HD := Lib.hid (hdr _ (hs.lo (Lo.of_below b1)) (hr.later b1))
  have HB1 := Lib.hid b1
  have HN := Lib.hid (Has.new w (.cells #[.string ⟨#[]⟩, .int .i64 0, .int .i64 0, .int .i64 0, .int .i64 0, .int .i64 0] 25))
  have HRw : Hid (R < w.heap.size) := hRw
  have HM := Lib.hid (fun W hW => mayBe_any R t (.slice a len cap) pl 0 x0 x1 x2 x3 x4 x5 x6 x7 x8 x9 x10 x11 x12 x13 x14 x15 W hW)
  rw [hm] at HM
  have hfn : ((15 : Int) != 0) = true := by decide
  have HRf := Lib.hid (fun W hW => refuse_first R t (.slice a len cap) pl [x0, x1, x2, x3, x4, x5, x6, x7, x8, x9, x10, x11, x12, x13, x14, x15] 15 W hW)
  have HP := Lib.hid (fun W hW => piece_fault R t (.slice a len cap) pl 15 [x0, x1, x2, x3, x4, x5, x6, x7, x8, x9, x10, x11, x12, x13, x14, x15] x9 hfn W hW)
  clear hdr hs hr hRw b1 hm
  go_enter Try.func37, Try.ntmps37
  go_wp2_with (first | (go_at_call 73; refine HD.out.mono ?_; rintro e w2 ⟨rfl, hr2, hs2, hl2⟩; have R2 := Lib.hid hr2; have S2 := Lib.hid hs2; have L2 := Lib.hid (((Lr.refl w.heap.size R w).lo (Lo.of_below (b := w.heap.size) (m := 0) HB1.out) (Nat.le_refl _) (Or.inr (Nat.le_refl _))).lo hl2 HB1.out.size (Or.inl ⟨rfl, rfl⟩)); have N2 := Lib.hid (hl2.has HN.out (Or.inr (by have := HRw.out; omega))); clear hr2 hs2 hl2 HD) | (go_at_call 74; refine (HM.out _ R2.out).mono ?_; rintro e w3 ⟨rfl, rfl⟩; clear HM) | (go_at_call 75; refine (HRf.out _ R2.out).mono ?_; rintro e w4 ⟨rfl, hr4, hl4, hz4⟩; have R4 := Lib.hid hr4; have L4 := Lib.hid (L2.out.lo hl4 L2.out.size (Or.inl ⟨rfl, rfl⟩)); have N4 := Lib.hid (hl4.has N2.out (Or.inr (by have := HRw.out; omega))); clear hr4 hl4 hz4 HRf))
  have R5 := Lib.hid (R4.out.later (Below.refl w4.heap.size w4).drew)
  have g12 := (R5.out.field 9 (by simp) : _ = some (Value.int .i64 x9))
  obtain ⟨g0, g1, g2⟩ := R5.out.cells
  have N5 := Lib.hid (Has.later N4.out (Below.refl w4.heap.size w4).drew)
  have L5 := Lib.hid (L4.out.drew L4.out.size)
  clear R4 L4 N4
  go_region_held3 (fun w' => w'.cell? ⟨R, 12, none⟩ = some (.int .i64 x9)) (first | (exact g12) | (exact g12')) (first | (go_at_call 76; refine (HP.out _ R5.out).mono ?_; rintro e w6 ⟨rfl, rfl⟩; clear HP))
  go_wp2_with fail
  obtain ⟨V, hV⟩ : ∃ V, V = w4.drew := ⟨_, rfl⟩
  rw [← hV] at R5 N5 L5 ⊢
  have N6 := Lib.hid (Has.later N5.out (Below.refl V.heap.size V).drew)
  have L6 := Lib.hid (L5.out.drew L5.out.size)
  have R6 := R5.out.later (Below.refl V.heap.size V).drew
  obtain ⟨h0, h1, h2⟩ := R6.cells
  have RW := setrow_rs V.drew w.heap.size R HRw.out 25 _ #[.string ⟨#[]⟩, .int .i64 0, .int .i64 0, .int .i64 0, .int .i64 0, .int .i64 0] N6.out
  have i2 := (RW.2.1 t _ _ _ _ R6).cells.2.2
  have HRW := Lib.hid (⟨RW.1, RW.2.2 w rfl L6.out⟩ : _ ∧ _)
  clear hV g0 g1 g2 g12 R5 N5 L5 R6 h0 h1 RW
  refine wp_region_held_drew (S := fun w' => w'.cell? ⟨R, 2, none⟩ = some (.int .i64 15)) (by kernel_rfl) h2 (fun _ => ?_)
  change wpAnyH _ _ _ _ _ 9 (Array.replicate 9 false) _ _

  refine wpAnyH_take (i := 0) (v := ?_) rfl (by kernel_rfl) (by kernel_rfl) (by kernel_rfl) (fun _ _ _ h => h) (Or.inl ⟨rfl, ?hy0⟩) h2 ?_
  case hy0 => intro w' hw'; clear hw'; go_simp; first | done | rfl
  try simp only [Act.put, List.getElem_toArray, List.getElem_cons_zero, List.setIfInBounds_toArray, List.set_cons_zero, List.set_cons_succ]

  refine wpAnyH_take (i := 1) (v := ?_) rfl (by kernel_rfl) (by kernel_rfl) (by kernel_rfl) (fun _ _ _ h => h) (Or.inl ⟨rfl, ?hy1⟩) h2 ?_
  case hy1 => intro w' hw'; clear hw'; go_simp; first | done | rfl
  try simp only [Act.put, List.getElem_toArray, List.getElem_cons_zero, List.getElem_cons_succ, List.setIfInBounds_toArray, List.set_cons_zero, List.set_cons_succ]

  refine wpAnyH_take (i := 2) (v := ?_) rfl (by kernel_rfl) (by kernel_rfl) (by kernel_rfl) (fun _ _ _ h => h) (Or.inl ⟨rfl, ?hy2⟩) h2 ?_
  case hy2 => intro w' hw'; clear hw'; go_simp; first | done | rfl
  try simp only [Act.put, List.getElem_toArray, List.getElem_cons_zero, List.getElem_cons_succ, List.setIfInBounds_toArray, List.set_cons_zero, List.set_cons_succ]

  refine wpAnyH_take (i := 3) (v := ?_) rfl (by kernel_rfl) (by kernel_rfl) (by kernel_rfl) (fun _ _ _ h => h) (Or.inl ⟨rfl, ?hy3⟩) h2 ?_
  case hy3 => intro w' hw'; clear hw'; go_simp; first | done | rfl
  try simp only [Act.put, List.getElem_toArray, List.getElem_cons_zero, List.getElem_cons_succ, List.setIfInBounds_toArray, List.set_cons_zero, List.set_cons_succ]

  refine wpAnyH_take (i := 4) (v := ?_) rfl (by kernel_rfl) (by kernel_rfl) (by kernel_rfl) (fun _ _ _ h => h) (Or.inl ⟨rfl, ?hy4⟩) h2 ?_
  case hy4 => intro w' hw'; clear hw'; go_simp; first | done | rfl
  try simp only [Act.put, List.getElem_toArray, List.getElem_cons_zero, List.getElem_cons_succ, List.setIfInBounds_toArray, List.set_cons_zero, List.set_cons_succ]

  refine wpAnyH_take (i := 5) (v := ?_) rfl (by kernel_rfl) (by kernel_rfl) (by kernel_rfl) (fun _ _ _ h => h) (Or.inl ⟨rfl, ?hy5⟩) h2 ?_
  case hy5 => intro w' hw'; have hw2' := hw'; clear hw'; go_simp; first | done | rfl
  try simp only [Act.put, List.getElem_toArray, List.getElem_cons_zero, List.getElem_cons_succ, List.setIfInBounds_toArray, List.set_cons_zero, List.set_cons_succ]

  refine wpAnyH_ready (rs := [6]) (by kernel_rfl) (by simp) ?_
  refine AllReadyH.cons rfl (fun K hK => ?_) AllReadyH.nil
  rw [if_pos (by rfl)]
  refine wp_store_row 25 _ _ rfl w.heap.size #[.string ⟨#[]⟩, .int .i64 0, .int .i64 0, .int .i64 0, .int .i64 0, .int .i64 0] rfl rfl 25 _ N6.out hi rfl (by simp [Value.oneCell']) ?_
  refine hK.out _ _ i2 (fun _ => ?_)
  clear hK K
  try simp only [Act.put, List.getElem_toArray, List.getElem_cons_zero, List.getElem_cons_succ]

  refine wpAnyH_take (i := 7) (v := ?_) rfl (by kernel_rfl) (by kernel_rfl) (by kernel_rfl) (fun _ _ _ h => h) (Or.inl ⟨rfl, ?hy7⟩) i2 ?_
  case hy7 => intro w' hw'; clear hw'; go_simp; first | done | rfl
  try simp only [Act.put, List.getElem_toArray, List.getElem_cons_zero, List.getElem_cons_succ, List.setIfInBounds_toArray, List.set_cons_zero, List.set_cons_succ]
  refine wpAnyH_take (i := 8) (v := ?_) rfl (by kernel_rfl) (by kernel_rfl) (by kernel_rfl) (fun _ _ _ h => h) (Or.inl ⟨rfl, ?hy8⟩) i2 ?_
  case hy8 => intro w' hw'; clear hw'; go_simp; first | done | rfl
  try simp only [Act.put, List.getElem_toArray, List.getElem_cons_zero, List.getElem_cons_succ, List.setIfInBounds_toArray, List.set_cons_zero, List.set_cons_succ]

  refine wpAnyH_done (by kernel_rfl) ?_ _
  go_wp2
  refine bodyPost_ret (results_cell_tt rfl _ _ w.heap.size 25 _ (0, 0) _ rfl HRW.out.1 Try.underlying25 rfl hi) rfl ⟨rfl, HRW.out.2⟩

set_option maxHeartbeats 4000000 in
theorem read_short (R : Nat) (t : TypeId) (M : ByteArray) (FV : Value) (a : Option Addr) (len cap : Nat) (bs : List Nat) (i : Int) (pl n : Nat) (hn : n ≤ 65535) (hpl : pl ≤ len) (hfar : len < pl + n) (x0 x1 x2 x3 x4 x5 x6 x7 x8 x10 x11 x12 x13 x14 x15 : Int) (hm : mbH x1 x2 x3 (n : Int) x10 x11 x12 = true) (w : World)
    (hdr : ∀ W, Sb W R a len cap bs → Rs W R t (.slice a len cap) i 0 z16 → Calls Try.prog 73 #[.pointer (some ⟨R, 0, none⟩), .string M, FV] W fun e w' => e = .returned (.tuple #[]) ∧ Rs w' R t (.slice a len cap) pl 0 [x0, x1, x2, x3, x4, x5, x6, x7, x8, (n : Int), x10, x11, x12, x13, x14, x15] ∧ Sb w' R a len cap bs ∧ Lo R 1 W w')
    (hs : Sb w R a len cap bs) (hr : Rs w R t (.slice a len cap) i 0 z16) :
    Calls Try.prog 37 #[.pointer (some ⟨R, 0, none⟩), .string M, FV] w fun e w' => e = .returned (.tuple #[.agg #[.string ⟨#[]⟩, .int .i64 0, .int .i64 0, .int .i64 0, .int .i64 0, .int .i64 0], .int .i64 0, .int .i64 4]) ∧ Lo R 1 w w' := by
  have hRw := Has.lt hr
  have hi : (Try.prog.info? 25).map (·.size) = some 6 := by kernel_rfl
  have b1 := below1 w (.cells #[.string ⟨#[]⟩, .int .i64 0, .int .i64 0, .int .i64 0, .int .i64 0, .int .i64 0] 25)
  have HD := Lib.hid (hdr _ (hs.lo (Lo.of_below b1)) (hr.later b1))
  have HB1 := Lib.hid b1
  have HN := Lib.hid (Has.new w (.cells #[.string ⟨#[]⟩, .int .i64 0, .int .i64 0, .int .i64 0, .int .i64 0, .int .i64 0] 25))
  have HRw : Hid (R < w.heap.size) := hRw
  have hl := hs.1.len.2.1
  have HM := Lib.hid (fun W hW => mayBe_any R t (.slice a len cap) pl 0 x0 x1 x2 x3 x4 x5 x6 x7 x8 n x10 x11 x12 x13 x14 x15 W hW)
  rw [hm] at HM
  have HP := Lib.hid (fun W hW => piece_far R t a len cap pl [x0, x1, x2, x3, x4, x5, x6, x7, x8, (n : Int), x10, x11, x12, x13, x14, x15] n hn hl hpl hfar W hW)
  clear hdr hs hr hRw b1 hm hl hn hpl hfar
  go_enter Try.func37, Try.ntmps37
  go_wp2_with (first | (go_at_call 73; refine HD.out.mono ?_; rintro e w2 ⟨rfl, hr2, hs2, hl2⟩; have R2 := Lib.hid hr2; have S2 := Lib.hid hs2; have L2 := Lib.hid (((Lr.refl w.heap.size R w).lo (Lo.of_below (b := w.heap.size) (m := 0) HB1.out) (Nat.le_refl _) (Or.inr (Nat.le_refl _))).lo hl2 HB1.out.size (Or.inl ⟨rfl, rfl⟩)); have N2 := Lib.hid (hl2.has HN.out (Or.inr (by have := HRw.out; omega))); clear hr2 hs2 hl2 HD) | (go_at_call 74; refine (HM.out _ R2.out).mono ?_; rintro e w3 ⟨rfl, rfl⟩; clear HM))
  have R5 := Lib.hid (R2.out.later (Below.refl w2.heap.size w2).drew)
  have g12 := (R5.out.field 9 (by simp) : _ = some (Value.int .i64 (n : Int)))
  obtain ⟨g0, g1, g2⟩ := R5.out.cells
  have N5 := Lib.hid (Has.later N2.out (Below.refl w2.heap.size w2).drew)
  have L5 := Lib.hid (L2.out.drew L2.out.size)
  clear R2 L2 N2
  go_region_held3 (fun w' => w'.cell? ⟨R, 12, none⟩ = some (.int .i64 (n : Int))) (first | (exact g12) | (exact g12')) (first | (go_at_call 76; refine (HP.out _ R5.out).mono ?_; rintro e w6 ⟨rfl, hr6, hl6⟩; have R7 := Lib.hid hr6; have N7 := Lib.hid (hl6.has N5.out (Or.inr (by have := HRw.out; omega))); have L7 := Lib.hid (L5.out.lo hl6 L5.out.size (Or.inl ⟨rfl, rfl⟩)); have g12' := (hr6.field 9 (by simp) : _ = some (Value.int .i64 (n : Int))); obtain ⟨g0', g1', g2'⟩ := hr6.cells; clear hr6 hl6 HP))
  go_wp2_with fail
  obtain ⟨V, hV⟩ : ∃ V, V = w6 := ⟨_, rfl⟩
  rw [← hV] at R7 N7 L7 ⊢
  have N6 := Lib.hid (Has.later N7.out (Below.refl V.heap.size V).drew)
  have L6 := Lib.hid (L7.out.drew L7.out.size)
  have R6 := R7.out.later (Below.refl V.heap.size V).drew
  obtain ⟨h0, h1, h2⟩ := R6.cells
  have RW := setrow_rs V.drew w.heap.size R HRw.out 25 _ #[.string ⟨#[]⟩, .int .i64 0, .int .i64 0, .int .i64 0, .int .i64 0, .int .i64 0] N6.out
  have i2 := (RW.2.1 t _ _ _ _ R6).cells.2.2
  have HRW := Lib.hid (⟨RW.1, RW.2.2 w rfl L6.out⟩ : _ ∧ _)
  clear hV g0 g1 g2 g12 R5 N5 L5 R6 h0 h1 RW
  refine wp_region_held_drew (S := fun w' => w'.cell? ⟨R, 2, none⟩ = some (.int .i64 4)) (by kernel_rfl) h2 (fun _ => ?_)
  change wpAnyH _ _ _ _ _ 9 (Array.replicate 9 false) _ _

  refine wpAnyH_take (i := 0) (v := ?_) rfl (by kernel_rfl) (by kernel_rfl) (by kernel_rfl) (fun _ _ _ h => h) (Or.inl ⟨rfl, ?hy0⟩) h2 ?_
  case hy0 => intro w' hw'; clear hw'; go_simp; first | done | rfl
  try simp only [Act.put, List.getElem_toArray, List.getElem_cons_zero, List.setIfInBounds_toArray, List.set_cons_zero, List.set_cons_succ]

  refine wpAnyH_take (i := 1) (v := ?_) rfl (by kernel_rfl) (by kernel_rfl) (by kernel_rfl) (fun _ _ _ h => h) (Or.inl ⟨rfl, ?hy1⟩) h2 ?_
  case hy1 => intro w' hw'; clear hw'; go_simp; first | done | rfl
  try simp only [Act.put, List.getElem_toArray, List.getElem_cons_zero, List.getElem_cons_succ, List.setIfInBounds_toArray, List.set_cons_zero, List.set_cons_succ]

  refine wpAnyH_take (i := 2) (v := ?_) rfl (by kernel_rfl) (by kernel_rfl) (by kernel_rfl) (fun _ _ _ h => h) (Or.inl ⟨rfl, ?hy2⟩) h2 ?_
  case hy2 => intro w' hw'; clear hw'; go_simp; first | done | rfl
  try simp only [Act.put, List.getElem_toArray, List.getElem_cons_zero, List.getElem_cons_succ, List.setIfInBounds_toArray, List.set_cons_zero, List.set_cons_succ]

  refine wpAnyH_take (i := 3) (v := ?_) rfl (by kernel_rfl) (by kernel_rfl) (by kernel_rfl) (fun _ _ _ h => h) (Or.inl ⟨rfl, ?hy3⟩) h2 ?_
  case hy3 => intro w' hw'; clear hw'; go_simp; first | done | rfl
  try simp only [Act.put, List.getElem_toArray, List.getElem_cons_zero, List.getElem_cons_succ, List.setIfInBounds_toArray, List.set_cons_zero, List.set_cons_succ]

  refine wpAnyH_take (i := 4) (v := ?_) rfl (by kernel_rfl) (by kernel_rfl) (by kernel_rfl) (fun _ _ _ h => h) (Or.inl ⟨rfl, ?hy4⟩) h2 ?_
  case hy4 => intro w' hw'; clear hw'; go_simp; first | done | rfl
  try simp only [Act.put, List.getElem_toArray, List.getElem_cons_zero, List.getElem_cons_succ, List.setIfInBounds_toArray, List.set_cons_zero, List.set_cons_succ]

  refine wpAnyH_take (i := 5) (v := ?_) rfl (by kernel_rfl) (by kernel_rfl) (by kernel_rfl) (fun _ _ _ h => h) (Or.inl ⟨rfl, ?hy5⟩) h2 ?_
  case hy5 => intro w' hw'; have hw2' := hw'; clear hw'; go_simp; first | done | rfl
  try simp only [Act.put, List.getElem_toArray, List.getElem_cons_zero, List.getElem_cons_succ, List.setIfInBounds_toArray, List.set_cons_zero, List.set_cons_succ]

  refine wpAnyH_ready (rs := [6]) (by kernel_rfl) (by simp) ?_
  refine AllReadyH.cons rfl (fun K hK => ?_) AllReadyH.nil
  rw [if_pos (by rfl)]
  refine wp_store_row 25 _ _ rfl w.heap.size #[.string ⟨#[]⟩, .int .i64 0, .int .i64 0, .int .i64 0, .int .i64 0, .int .i64 0] rfl rfl 25 _ N6.out hi rfl (by simp [Value.oneCell']) ?_
  refine hK.out _ _ i2 (fun _ => ?_)
  clear hK K
  try simp only [Act.put, List.getElem_toArray, List.getElem_cons_zero, List.getElem_cons_succ]

  refine wpAnyH_take (i := 7) (v := ?_) rfl (by kernel_rfl) (by kernel_rfl) (by kernel_rfl) (fun _ _ _ h => h) (Or.inl ⟨rfl, ?hy7⟩) i2 ?_
  case hy7 => intro w' hw'; clear hw'; go_simp; first | done | rfl
  try simp only [Act.put, List.getElem_toArray, List.getElem_cons_zero, List.getElem_cons_succ, List.setIfInBounds_toArray, List.set_cons_zero, List.set_cons_succ]
  refine wpAnyH_take (i := 8) (v := ?_) rfl (by kernel_rfl) (by kernel_rfl) (by kernel_rfl) (fun _ _ _ h => h) (Or.inl ⟨rfl, ?hy8⟩) i2 ?_
  case hy8 => intro w' hw'; clear hw'; go_simp; first | done | rfl
  try simp only [Act.put, List.getElem_toArray, List.getElem_cons_zero, List.getElem_cons_succ, List.setIfInBounds_toArray, List.set_cons_zero, List.set_cons_succ]

  refine wpAnyH_done (by kernel_rfl) ?_ _
  go_wp2
  refine bodyPost_ret (results_cell_tt rfl _ _ w.heap.size 25 _ (0, 0) _ rfl HRW.out.1 Try.underlying25 rfl hi) rfl ⟨rfl, HRW.out.2⟩

set_option maxHeartbeats 4000000 in
theorem read_ok (R : Nat) (t : TypeId) (M : ByteArray) (FV : Value) (a : Option Addr) (len cap : Nat) (bs : List Nat) (i : Int) (pl n : Nat) (hn : n ≤ 65535) (hq : pl + n ≤ len) (x0 x1 x2 x3 x4 x5 x6 x7 x8 x10 x11 x12 x13 x14 x15 : Int) (hm : mbH x1 x2 x3 (n : Int) x10 x11 x12 = true) (w : World)
    (hdr : ∀ W, Sb W R a len cap bs → Rs W R t (.slice a len cap) i 0 z16 → Calls Try.prog 73 #[.pointer (some ⟨R, 0, none⟩), .string M, FV] W fun e w' => e = .returned (.tuple #[]) ∧ Rs w' R t (.slice a len cap) pl 0 [x0, x1, x2, x3, x4, x5, x6, x7, x8, (n : Int), x10, x11, x12, x13, x14, x15] ∧ Sb w' R a len cap bs ∧ Lo R 1 W w')
    (hs : Sb w R a len cap bs) (hr : Rs w R t (.slice a len cap) i 0 z16) :
    Calls Try.prog 37 #[.pointer (some ⟨R, 0, none⟩), .string M, FV] w fun e w' => e = .returned (.tuple #[rv (strB ((bs.drop pl).take n)) x3 x6 x7 x8 x15, .int .i64 ((pl + n : Nat) : Int), .int .i64 0]) ∧ Lo R 1 w w' := by
  have hRw := Has.lt hr
  have hi : (Try.prog.info? 25).map (·.size) = some 6 := by kernel_rfl
  have b1 := below1 w (.cells #[.string ⟨#[]⟩, .int .i64 0, .int .i64 0, .int .i64 0, .int .i64 0, .int .i64 0] 25)
  have HD := Lib.hid (hdr _ (hs.lo (Lo.of_below b1)) (hr.later b1))
  have HB1 := Lib.hid b1
  have HN := Lib.hid (Has.new w (.cells #[.string ⟨#[]⟩, .int .i64 0, .int .i64 0, .int .i64 0, .int .i64 0, .int .i64 0] 25))
  have HRw : Hid (R < w.heap.size) := hRw
  have HM := Lib.hid (fun W hW => mayBe_any R t (.slice a len cap) pl 0 x0 x1 x2 x3 x4 x5 x6 x7 x8 n x10 x11 x12 x13 x14 x15 W hW)
  rw [hm] at HM
  have HP := Lib.hid (fun W hS hW => piece_good R t a len cap bs pl [x0, x1, x2, x3, x4, x5, x6, x7, x8, (n : Int), x10, x11, x12, x13, x14, x15] n hn hq W hS hW)
  obtain ⟨A, hA⟩ : ∃ A, A = strB ((bs.drop pl).take n) := ⟨_, rfl⟩
  have HAq : Hid (A = strB ((bs.drop pl).take n)) := hA
  rw [← hA]
  generalize (bs.drop pl).take n = q at *
  obtain ⟨pn, hpn⟩ : ∃ pn, pn = pl + n := ⟨_, rfl⟩
  rw [← hpn] at HP ⊢
  have HRec := Lib.hid (fun W hW => record_any R t (.slice a len cap) (pn : Int) 0 x0 x1 x2 x3 x4 x5 x6 x7 x8 n x10 x11 x12 x13 x14 x15 A W hW)
  unfold rv at HRec ⊢
  clear hdr hs hr hRw b1 hm hn hq hA hpn
  go_enter Try.func37, Try.ntmps37
  go_wp2_with (first | (go_at_call 73; refine HD.out.mono ?_; rintro e w2 ⟨rfl, hr2, hs2, hl2⟩; have R2 := Lib.hid hr2; have S2 := Lib.hid hs2; have L2 := Lib.hid (((Lr.refl w.heap.size R w).lo (Lo.of_below (b := w.heap.size) (m := 0) HB1.out) (Nat.le_refl _) (Or.inr (Nat.le_refl _))).lo hl2 HB1.out.size (Or.inl ⟨rfl, rfl⟩)); have N2 := Lib.hid (hl2.has HN.out (Or.inr (by have := HRw.out; omega))); clear hr2 hs2 hl2 HD) | (go_at_call 74; refine (HM.out _ R2.out).mono ?_; rintro e w3 ⟨rfl, rfl⟩; clear HM))
  have R5 := Lib.hid (R2.out.later (Below.refl w2.heap.size w2).drew)
  have S5 := Lib.hid (S2.out.below (Below.refl w2.heap.size w2).drew)
  have g12 := (R5.out.field 9 (by simp) : _ = some (Value.int .i64 (n : Int)))
  have N5 := Lib.hid (Has.later N2.out (Below.refl w2.heap.size w2).drew)
  have L5 := Lib.hid (L2.out.drew L2.out.size)
  clear R2 L2 N2
  go_region_held3 (fun w' => w'.cell? ⟨R, 12, none⟩ = some (.int .i64 (n : Int))) (first | (exact g12) | (exact g12')) (first | (go_at_call 76; refine (HP.out _ S5.out R5.out).mono ?_; rintro e w6 ⟨a6, c6, rfl, hs6, hr6, hl6⟩; have R7 := Lib.hid hr6; have Q7 := Lib.hid hs6; have N7 := Lib.hid (hl6.has N5.out (Or.inr (by have := HRw.out; omega))); have L7 := Lib.hid (L5.out.lo hl6 L5.out.size (Or.inl ⟨rfl, rfl⟩)); have g12' := (hr6.field 9 (by simp) : _ = some (Value.int .i64 (n : Int))); obtain ⟨g0', g1', g2'⟩ := hr6.cells; clear hr6 hs6 hl6 HP))
  go_wp2_with fail

  have R8 := R7.out.later (Below.refl w6.heap.size w6).drew
  have N8 := Lib.hid (Has.later N7.out (Below.refl w6.heap.size w6).drew)
  have L8 := Lib.hid (L7.out.drew L7.out.size)
  have hcv := string_of w6.drew a6 n c6 q A (Q7.out.later (Below.refl w6.heap.size w6).drew) HAq
  have HR8 := Lib.hid R8
  have h1 := R8.cells.2.1
  clear R8 g0' g1' g2' g12' g12 R5 S5 N5 L5 R7 Q7 N7 L7
  refine wp_region_held_drew (S := fun w' => w'.cell? ⟨R, 1, none⟩ = some (.int .i64 (pn : Int))) (by kernel_rfl) h1 (fun _ => ?_)
  change wpAnyH _ _ _ _ _ 14 (Array.replicate 14 false) _ _

  refine wpAnyH_take (i := 0) (v := ?_) rfl (by kernel_rfl) (by kernel_rfl) (by kernel_rfl) (fun _ _ _ h => h) (Or.inl ⟨rfl, ?hy0⟩) h1 ?_
  case hy0 => intro w' hw'; clear hw'; go_simp; first | done | rfl
  try simp only [Act.put, List.getElem_toArray, List.getElem_cons_zero, List.setIfInBounds_toArray, List.set_cons_zero, List.set_cons_succ]

  refine wpAnyH_take (i := 1) (v := ?_) rfl (by kernel_rfl) (by kernel_rfl) (by kernel_rfl) (fun _ _ _ h => h) (Or.inl ⟨rfl, ?hy1⟩) h1 ?_
  case hy1 => intro w' hw'; clear hw'; go_simp; first | done | rfl
  try simp only [Act.put, List.getElem_toArray, List.getElem_cons_zero, List.getElem_cons_succ, List.setIfInBounds_toArray, List.set_cons_zero, List.set_cons_succ]

  refine wpAnyH_take (i := 2) (v := ?_) rfl (by kernel_rfl) (by kernel_rfl) (by kernel_rfl) (fun _ _ _ h => h) (Or.inl ⟨rfl, ?hy2⟩) h1 ?_
  case hy2 => intro w' hw'; clear hw'; go_simp; first | done | rfl
  try simp only [Act.put, List.getElem_toArray, List.getElem_cons_zero, List.getElem_cons_succ, List.setIfInBounds_toArray, List.set_cons_zero, List.set_cons_succ]

  refine wpAnyH_take (i := 3) (v := ?_) rfl (by kernel_rfl) (by kernel_rfl) (by kernel_rfl) (fun _ _ _ h => h) (Or.inl ⟨rfl, ?hy3⟩) h1 ?_
  case hy3 => intro w' hw'; clear hw'; go_simp; first | done | rfl
  try simp only [Act.put, List.getElem_toArray, List.getElem_cons_zero, List.getElem_cons_succ, List.setIfInBounds_toArray, List.set_cons_zero, List.set_cons_succ]

  refine wpAnyH_take (i := 6) (v := ?_) rfl (by kernel_rfl) (by kernel_rfl) (by kernel_rfl) (fun _ _ _ h => h) (Or.inl ⟨rfl, ?hy6⟩) h1 ?_
  case hy6 => intro w' hw'; clear hw'; go_simp; first | done | rfl
  try simp only [Act.put, List.getElem_toArray, List.getElem_cons_zero, List.getElem_cons_succ, List.setIfInBounds_toArray, List.set_cons_zero, List.set_cons_succ]

  refine wpAnyH_take (i := 7) (v := ?_) rfl (by kernel_rfl) (by kernel_rfl) (by kernel_rfl) (fun _ _ _ h => h) (Or.inl ⟨rfl, ?hy7⟩) h1 ?_
  case hy7 => intro w' hw'; clear hw'; go_simp; first | done | rfl
  try simp only [Act.put, List.getElem_toArray, List.getElem_cons_zero, List.getElem_cons_succ, List.setIfInBounds_toArray, List.set_cons_zero, List.set_cons_succ]

  refine wpAnyH_take (i := 8) (v := ?_) rfl (by kernel_rfl) (by kernel_rfl) (by kernel_rfl) (fun _ _ _ h => h) (Or.inl ⟨rfl, ?hy8⟩) h1 ?_
  case hy8 => intro w' hw'; clear hw'; go_simp; first | done | rfl
  try simp only [Act.put, List.getElem_toArray, List.getElem_cons_zero, List.getElem_cons_succ, List.setIfInBounds_toArray, List.set_cons_zero, List.set_cons_succ]

  refine wpAnyH_take (i := 9) (v := ?_) rfl (by kernel_rfl) (by kernel_rfl) (by kernel_rfl) (fun _ _ _ h => h) (Or.inl ⟨rfl, ?hy9⟩) h1 ?_
  case hy9 => intro w' hw'; clear hw'; go_simp; first | done | rfl
  try simp only [Act.put, List.getElem_toArray, List.getElem_cons_zero, List.getElem_cons_succ, List.setIfInBounds_toArray, List.set_cons_zero, List.set_cons_succ]

  refine wpAnyH_take (i := 10) (v := ?_) rfl (by kernel_rfl) (by kernel_rfl) (by kernel_rfl) (fun _ _ _ h => h) (Or.inl ⟨rfl, ?hy10⟩) h1 ?_
  case hy10 => intro w' hw'; have hw2' := hw'; clear hw'; go_simp; first | done | rfl
  try simp only [Act.put, List.getElem_toArray, List.getElem_cons_zero, List.getElem_cons_succ, List.setIfInBounds_toArray, List.set_cons_zero, List.set_cons_succ]

  refine wpAnyH_ready (rs := [4]) (by kernel_rfl) (by simp) ?_
  refine AllReadyH.cons rfl (fun K hK => ?_) AllReadyH.nil
  go_simp
  refine hK.out _ _ h1 (fun _ => ?_)
  clear hK K
  try simp only [Act.put, List.getElem_toArray, List.getElem_cons_zero, List.getElem_cons_succ, List.setIfInBounds_toArray, List.set_cons_zero, List.set_cons_succ]

  refine wpAnyH_ready (rs := [5]) (by kernel_rfl) (by simp) ?_
  refine AllReadyH.cons rfl (fun K hK => ?_) AllReadyH.nil
  go_simp
  refine (HRec.out _ HR8.out).mono ?_
  rintro e w9 ⟨rfl, hb9⟩
  have R9 := Lib.hid (HR8.out.later hb9)
  have N9 := Lib.hid (Has.later N8.out hb9)
  have L9 := Lib.hid (L8.out.lo (Lo.of_below (b := w.heap.size) (m := 0) hb9) L8.out.size (Or.inr (Nat.le_refl _)))
  have h9 := R9.out.cells.2.1
  clear hb9 HRec h1 N8 L8 HR8 hcv
  dsimp only
  refine hK.out _ _ h9 (fun _ => ?_)
  clear hK K
  try simp only [Act.put, List.getElem_toArray, List.getElem_cons_zero, List.getElem_cons_succ, List.setIfInBounds_toArray, List.set_cons_zero, List.set_cons_succ]

  have RW := setrow_rs w9 w.heap.size R HRw.out 25 _ #[.string A, .int .i64 x3, .int .i64 x6, .int .i64 x7, .int .i64 x8, .int .i64 x15] N9.out
  have i1 := (RW.2.1 t _ _ _ _ R9.out).cells.2.1
  have HRW := Lib.hid (⟨RW.1, RW.2.2 w rfl L9.out⟩ : _ ∧ _)
  clear RW
  refine wpAnyH_ready (rs := [11]) (by kernel_rfl) (by simp) ?_
  refine AllReadyH.cons rfl (fun K hK => ?_) AllReadyH.nil
  rw [if_pos (by rfl)]
  refine wp_store_row 25 _ _ rfl w.heap.size #[.string A, .int .i64 x3, .int .i64 x6, .int .i64 x7, .int .i64 x8, .int .i64 x15] rfl rfl 25 _ N9.out hi rfl (by simp [Value.oneCell']) ?_
  refine hK.out _ _ i1 (fun _ => ?_)
  clear hK K
  try simp only [Act.put, List.getElem_toArray, List.getElem_cons_zero, List.getElem_cons_succ]

  refine wpAnyH_take (i := 12) (v := ?_) rfl (by kernel_rfl) (by kernel_rfl) (by kernel_rfl) (fun _ _ _ h => h) (Or.inl ⟨rfl, ?hy12⟩) i1 ?_
  case hy12 => intro w' hw'; clear hw'; go_simp; first | done | rfl
  try simp only [Act.put, List.getElem_toArray, List.getElem_cons_zero, List.getElem_cons_succ, List.setIfInBounds_toArray, List.set_cons_zero, List.set_cons_succ]
  refine wpAnyH_take (i := 13) (v := ?_) rfl (by kernel_rfl) (by kernel_rfl) (by kernel_rfl) (fun _ _ _ h => h) (Or.inl ⟨rfl, ?hy13⟩) i1 ?_
  case hy13 => intro w' hw'; clear hw'; go_simp; first | done | rfl
  try simp only [Act.put, List.getElem_toArray, List.getElem_cons_zero, List.getElem_cons_succ, List.setIfInBounds_toArray, List.set_cons_zero, List.set_cons_succ]

  refine wpAnyH_done (by kernel_rfl) ?_ _
  go_wp2
  refine bodyPost_ret (results_cell_tt rfl _ _ w.heap.size 25 _ (0, 0) _ rfl HRW.out.1 Try.underlying25 rfl hi) rfl ⟨rfl, HRW.out.2⟩

end Go.Proofs.Ytillckjohlbaiaa
