/- Contract of record.ReadEnd. -/
import Derived.Test.YtheffpihhmdceaaNrl
import Derived.Test.YtheffpihhmdceaaNend

namespace Go.Proofs.Ytheffpihhmdceaa
set_option maxRecDepth 100000
open Go.RowKit

abbrev z7 : List Int := [0, 0, 0, 0, 0, 0, 0]
theorem z7_is : List.replicate 7 (0 : Int) = z7 := rfl

theorem drewn_below {w w' : World} (h : ∃ n, w' = w.drewN n) : Below w.heap.size w w' := by
  obtain ⟨n, rfl⟩ := h
  exact below_drewN (Below.refl _ _) n

theorem results_tmp4 {fn : Func} {t u v x : Tmp} (h : fn.results = #[.tmp t, .tmp u, .tmp v, .tmp x]) (tmps : Array Value) (P : Program) (w : World) :
    (results fn tmps).run P w = .ok (.tuple #[tmps.getD t undef, tmps.getD u undef, tmps.getD v undef, tmps.getD x undef]) w := by
  simp [results, h]

/-- What a reader of an end tells. -/
structure Re where
  err : Int
  c : Int
  s : Int
  a : Int
def reBad (e : Int) : Re := ⟨e, 0, 0, 0⟩
def Re.val (r : Re) : Value := .tuple #[.int .i64 r.c, .int .i64 r.s, .int .i64 r.a, .int .i64 r.err]

set_option maxHeartbeats 4000000 in
theorem reade_fault (R : Nat) (t : TypeId) (a : Option Addr) (len cap : Nat) (bs : List Nat) (i : Int) (pl f : Int) (hf : (f == 0) = false) (w : World)
    (hdr : ∀ W, Sb W R a len cap bs → Rs W R t (.slice a len cap) i 0 z7 → Calls Try.prog 48 #[.pointer (some ⟨R, 0, none⟩), .string ⟨#[80, 75, 5, 6]⟩, (.func (.func 35) #[.pointer (some ⟨R, 3, none⟩)] #[])] W fun e w' => e = .returned (.tuple #[]) ∧ Rs w' R t (.slice a len cap) pl f z7 ∧ Sb w' R a len cap bs ∧ Lo R 1 W w')
    (hs : Sb w R a len cap bs) (hr : Rs w R t (.slice a len cap) i 0 z7) :
    Calls Try.prog 41 #[.pointer (some ⟨R, 0, none⟩)] w fun e w' => e = .returned (.tuple #[.int .i64 0, .int .i64 0, .int .i64 0, .int .i64 f]) ∧ Lo R 1 w w' := by
  have HD := Lib.hid (hdr w.drew (hs.lo (Lo.of_below (Below.refl w.heap.size w).drew)) (hr.later (Below.refl w.heap.size w).drew))

  have hm : mbE 0 0 0 0 0 = true := by decide
  have hfn : (f != 0) = true := by simp only [bne, hf]; rfl
  have HM := Lib.hid (fun W hW => mayBeE_any R t (.slice a len cap) pl f 0 0 0 0 0 0 0 W hW)
  rw [hm] at HM
  clear hdr hs hr hm
  go_enter Try.func41, Try.ntmps41
  go_wp2_with fail
  have hT : True := trivial
  go_region_held3 (fun _ => True) (trivial) (first | (go_at_call 48; refine HD.out.mono ?_; rintro e w2 ⟨rfl, hr2, hs2, hl2⟩; have R2 := Lib.hid hr2; have L2 := Lib.hid ((Lo.of_below (A := w) (Below.refl w.heap.size w).drew).trans hl2); clear hr2 hs2 hl2 HD))
  go_wp2_with (first | (go_at_call 54; refine (HM.out _ R2.out).mono ?_; rintro e w3 ⟨rfl, hn3⟩; have B3 := drewn_below hn3; have R3 := Lib.hid (R2.out.later B3); have L3 := Lib.hid (L2.out.trans (Lo.of_below B3)); clear hn3 B3; obtain ⟨g0, g1, g2⟩ := R3.out.cells; clear HM))
  go_quiet (fail)
  go_wp2
  refine bodyPost_ret (results_tmp4 rfl _ _ _) rfl ⟨rfl, L3.out.trans (Lo.of_below ?_)⟩
  exact below_drewN (Below.refl _ _) _

set_option maxHeartbeats 4000000 in
theorem reade_format (R : Nat) (t : TypeId) (a : Option Addr) (len cap : Nat) (bs : List Nat) (i : Int) (pl x0 x1 x2 x3 x4 x5 x6 : Int) (hm : mbE x0 x1 x2 x3 x6 = false) (w : World)
    (hdr : ∀ W, Sb W R a len cap bs → Rs W R t (.slice a len cap) i 0 z7 → Calls Try.prog 48 #[.pointer (some ⟨R, 0, none⟩), .string ⟨#[80, 75, 5, 6]⟩, (.func (.func 35) #[.pointer (some ⟨R, 3, none⟩)] #[])] W fun e w' => e = .returned (.tuple #[]) ∧ Rs w' R t (.slice a len cap) pl 0 [x0, x1, x2, x3, x4, x5, x6] ∧ Sb w' R a len cap bs ∧ Lo R 1 W w')
    (hs : Sb w R a len cap bs) (hr : Rs w R t (.slice a len cap) i 0 z7) :
    Calls Try.prog 41 #[.pointer (some ⟨R, 0, none⟩)] w fun e w' => e = .returned (.tuple #[.int .i64 0, .int .i64 0, .int .i64 0, .int .i64 15]) ∧ Lo R 1 w w' := by
  have HD := Lib.hid (hdr w.drew (hs.lo (Lo.of_below (Below.refl w.heap.size w).drew)) (hr.later (Below.refl w.heap.size w).drew))

  have HM := Lib.hid (fun W hW => mayBeE_any R t (.slice a len cap) pl 0 x0 x1 x2 x3 x4 x5 x6 W hW)
  rw [hm] at HM
  have HRf := Lib.hid (fun W hW => refuse_first R t (.slice a len cap) pl [x0, x1, x2, x3, x4, x5, x6] 15 W hW)
  clear hdr hs hr hm
  go_enter Try.func41, Try.ntmps41
  go_wp2_with fail
  have hT : True := trivial
  go_region_held3 (fun _ => True) (trivial) (first | (go_at_call 48; refine HD.out.mono ?_; rintro e w2 ⟨rfl, hr2, hs2, hl2⟩; have R2 := Lib.hid hr2; have L2 := Lib.hid ((Lo.of_below (A := w) (Below.refl w.heap.size w).drew).trans hl2); clear hr2 hs2 hl2 HD))
  go_wp2_with (first | (go_at_call 54; refine (HM.out _ R2.out).mono ?_; rintro e w3 ⟨rfl, hn3⟩; have B3 := drewn_below hn3; have R3 := Lib.hid (R2.out.later B3); have L3 := Lib.hid (L2.out.trans (Lo.of_below B3)); clear hn3 B3; clear HM) | (go_at_call 50; refine (HRf.out _ R3.out).mono ?_; rintro e w4 ⟨rfl, hr4, hl4, hz4⟩; have R4 := Lib.hid hr4; have L4 := Lib.hid (L3.out.trans hl4); obtain ⟨g0, g1, g2⟩ := hr4.cells; clear hr4 hl4 hz4 HRf))
  go_quiet (fail)
  go_wp2
  refine bodyPost_ret (results_tmp4 rfl _ _ _) rfl ⟨rfl, L4.out.trans (Lo.of_below ?_)⟩
  exact below_drewN (Below.refl _ _) _

set_option maxHeartbeats 4000000 in
theorem reade_ok (R : Nat) (t : TypeId) (a : Option Addr) (len cap : Nat) (bs : List Nat) (i : Int) (pl x0 x1 x2 x3 x4 x5 x6 : Int) (hm : mbE x0 x1 x2 x3 x6 = true) (w : World)
    (hdr : ∀ W, Sb W R a len cap bs → Rs W R t (.slice a len cap) i 0 z7 → Calls Try.prog 48 #[.pointer (some ⟨R, 0, none⟩), .string ⟨#[80, 75, 5, 6]⟩, (.func (.func 35) #[.pointer (some ⟨R, 3, none⟩)] #[])] W fun e w' => e = .returned (.tuple #[]) ∧ Rs w' R t (.slice a len cap) pl 0 [x0, x1, x2, x3, x4, x5, x6] ∧ Sb w' R a len cap bs ∧ Lo R 1 W w')
    (hs : Sb w R a len cap bs) (hr : Rs w R t (.slice a len cap) i 0 z7) :
    Calls Try.prog 41 #[.pointer (some ⟨R, 0, none⟩)] w fun e w' => e = .returned (.tuple #[.int .i64 x3, .int .i64 x4, .int .i64 x5, .int .i64 0]) ∧ Lo R 1 w w' := by
  have HD := Lib.hid (hdr w.drew (hs.lo (Lo.of_below (Below.refl w.heap.size w).drew)) (hr.later (Below.refl w.heap.size w).drew))

  have HM := Lib.hid (fun W hW => mayBeE_any R t (.slice a len cap) pl 0 x0 x1 x2 x3 x4 x5 x6 W hW)
  rw [hm] at HM
  clear hdr hs hr hm
  go_enter Try.func41, Try.ntmps41
  go_wp2_with fail
  have hT : True := trivial
  go_region_held3 (fun _ => True) (trivial) (first | (go_at_call 48; refine HD.out.mono ?_; rintro e w2 ⟨rfl, hr2, hs2, hl2⟩; have R2 := Lib.hid hr2; have L2 := Lib.hid ((Lo.of_below (A := w) (Below.refl w.heap.size w).drew).trans hl2); clear hr2 hs2 hl2 HD))
  go_wp2_with (first | (go_at_call 54; refine (HM.out _ R2.out).mono ?_; rintro e w3 ⟨rfl, hn3⟩; have B3 := drewn_below hn3; have R3 := Lib.hid (R2.out.later B3); have L3 := Lib.hid (L2.out.trans (Lo.of_below B3)); clear hn3 B3; obtain ⟨g0, g1, g2⟩ := R3.out.cells; have g6 := (R3.out.field 3 (by simp) : _ = some (Value.int .i64 x3)); have g7 := (R3.out.field 4 (by simp) : _ = some (Value.int .i64 x4)); have g8 := (R3.out.field 5 (by simp) : _ = some (Value.int .i64 x5)); clear HM))
  go_quiet (fail)
  go_wp2
  refine bodyPost_ret (results_tmp4 rfl _ _ _) rfl ⟨rfl, L3.out.trans (Lo.of_below ?_)⟩
  exact below_drewN (Below.refl _ _) _

/-- What ReadEnd tells. -/
def rdE (bs : List Nat) (i : Int) : Re :=
  if pe bs.length i 22 ≠ 0 then reBad (pe bs.length i 22) else if (bs.drop i.toNat).take 4 ≠ [80, 75, 5, 6] then reBad 15
  else if mbE (g2 (bs.drop i.toNat) 4) (g2 (bs.drop i.toNat) 6) (g2 (bs.drop i.toNat) 8) (g2 (bs.drop i.toNat) 10) (g2 (bs.drop i.toNat) 20) = false then reBad 15
  else ⟨0, g2 (bs.drop i.toNat) 10, g4 (bs.drop i.toNat) 12, g4 (bs.drop i.toNat) 16⟩

theorem reade_any (R : Nat) (a : Option Addr) (len cap : Nat) (bs : List Nat) (i : Int) (w : World) (hs : Sb w R a len cap bs) (hr : Rs w R 72 (.slice a len cap) i 0 z7) :
    Calls Try.prog 41 #[.pointer (some ⟨R, 0, none⟩)] w fun e w' => e = .returned (Re.val (rdE bs i)) ∧ Lo R 1 w w' := by
  have eg := enters_of Try.func35 (by kernel_rfl) rfl
  have hlen := hs.1.len.1
  have hL : ∀ p ∈ endL, p.2 = (p.2.toNat : Int) ∧ (p.2.toNat = 2 ∨ p.2.toNat = 4) ∧ p.1 < 7 := by decide
  have hmk : ∀ x ∈ [80, 75, 5, 6], x < 256 := by decide
  have hsw : 4 + sumw endL = 22 := by decide
  unfold rdE
  by_cases h1 : pe bs.length i 22 ≠ 0
  · rw [if_pos h1]
    have hb : (pe len i (4 + sumw endL) == 0) = false := by rw [beq_eq_false_iff_ne, hsw, hlen]; exact h1
    rw [← hlen, ← hsw]
    exact reade_fault R _ a len cap bs i i (pe len i (4 + sumw endL)) hb w (fun W hS hR => (callsIn_wide.1 (header_short 35 R 7 _ endL (numbers_seq R 3) eg hL (by decide) [80, 75, 5, 6] hmk rfl W a len cap bs i hS hR hb))) hs hr
  · rw [if_neg h1]
    have h1 : pe bs.length i 22 = 0 := Decidable.not_not.1 h1
    have hij : 0 ≤ i ∧ i + 22 ≤ bs.length := by
      unfold pe at h1
      split at h1
      · omega
      · split at h1 <;> omega
    obtain ⟨j, rfl⟩ : ∃ j : Nat, i = (j : Int) := ⟨i.toNat, by omega⟩
    rw [show ((j : Int).toNat) = j from by omega]
    have hle : j + (4 + sumw endL) ≤ len := by rw [hsw]; omega
    by_cases h2 : (bs.drop j).take 4 ≠ [80, 75, 5, 6]
    · rw [if_pos h2]
      exact reade_fault R _ a len cap bs j _ 15 (by decide) w (fun W hS hR => (callsIn_wide.1 (header_mark 35 R 7 _ endL (numbers_seq R 3) eg hL (by decide) [80, 75, 5, 6] hmk rfl W a len cap bs j hS hR hle h2))) hs hr
    · rw [if_neg h2]
      have h2 : (bs.drop j).take 4 = [80, 75, 5, 6] := Decidable.not_not.1 h2
      have hf : fill bs (j + 4) endL z7 = [g2 (bs.drop j) 4, g2 (bs.drop j) 6, g2 (bs.drop j) 8, g2 (bs.drop j) 10, g4 (bs.drop j) 12, g4 (bs.drop j) 16, g2 (bs.drop j) 20] := by
        simp only [g2_drop, g4_drop]
        rfl
      have HD : ∀ W, Sb W R a len cap bs → Rs W R 72 (.slice a len cap) (j : Int) 0 z7 → Calls Try.prog 48 #[.pointer (some ⟨R, 0, none⟩), .string ⟨#[80, 75, 5, 6]⟩, .func (.func 35) #[.pointer (some ⟨R, 3, none⟩)] #[]] W fun e w' => e = .returned (.tuple #[]) ∧ Rs w' R 72 (.slice a len cap) ((j + 4 + sumw endL : Nat) : Int) 0 [g2 (bs.drop j) 4, g2 (bs.drop j) 6, g2 (bs.drop j) 8, g2 (bs.drop j) 10, g4 (bs.drop j) 12, g4 (bs.drop j) 16, g2 (bs.drop j) 20] ∧ Sb w' R a len cap bs ∧ Lo R 1 W w' := by
        intro W hS hR
        have := callsIn_wide.1 (header_ok 35 R 7 _ endL (numbers_seq R 3) eg hL (by decide) [80, 75, 5, 6] hmk rfl W a len cap bs j hS hR hle h2)
        rw [z7_is, hf] at this
        exact this
      by_cases h3 : mbE (g2 (bs.drop j) 4) (g2 (bs.drop j) 6) (g2 (bs.drop j) 8) (g2 (bs.drop j) 10) (g2 (bs.drop j) 20) = false
      · rw [if_pos h3]
        exact reade_format R _ a len cap bs j _ _ _ _ _ _ _ _ h3 w HD hs hr
      · rw [if_neg h3]
        exact reade_ok R _ a len cap bs j _ _ _ _ _ _ _ _ (by simpa using h3) w HD hs hr

set_option maxHeartbeats 4000000 in
theorem readEnd_any (a : Option Addr) (len cap : Nat) (bs : List Nat) (i : Int) (hc : len ≤ cap) (w : World) (hs : Sl w (.slice a len cap) bs) :
    Calls Try.prog 24 #[.slice a len cap, .int .i64 i] w fun e w' => e = .returned (Re.val (rdE bs i)) ∧ Below w.heap.size w w' := by
  have hi2 : (Try.prog.info? 72).map (·.size) = some 10 := by kernel_rfl
  have hb : ∀ W, (Instr.build 72 #[(0, .agg #[.slice a len cap, .int .i64 i, .int .i64 0])]).run Try.prog W = .ok (.agg #[.slice a len cap, .int .i64 i, .int .i64 0, .int .i64 0, .int .i64 0, .int .i64 0, .int .i64 0, .int .i64 0, .int .i64 0, .int .i64 0]) W := fun W => by kernel_rfl
  have N0 := Has.new w (.cells #[.slice none 0 0, .int .i64 0, .int .i64 0, .int .i64 0, .int .i64 0, .int .i64 0, .int .i64 0, .int .i64 0, .int .i64 0, .int .i64 0] 72)
  have b2 := below1 w (.cells #[.slice none 0 0, .int .i64 0, .int .i64 0, .int .i64 0, .int .i64 0, .int .i64 0, .int .i64 0, .int .i64 0, .int .i64 0, .int .i64 0] 72)
  have HN0 := Lib.hid N0
  obtain ⟨w2, hw2⟩ : ∃ w2, w2 = (w.alloc (.cells #[.slice none 0 0, .int .i64 0, .int .i64 0, .int .i64 0, .int .i64 0, .int .i64 0, .int .i64 0, .int .i64 0, .int .i64 0, .int .i64 0] 72)).setRow w.heap.size #[.slice a len cap, .int .i64 i, .int .i64 0, .int .i64 0, .int .i64 0, .int .i64 0, .int .i64 0, .int .i64 0, .int .i64 0, .int .i64 0] := ⟨_, rfl⟩
  have R2 : Rs w2 w.heap.size 72 (.slice a len cap) i 0 z7 := by rw [hw2]; exact setRow_heap _ _ _ _ _ _ N0
  have b3 : Below w.heap.size w w2 := by
    rw [hw2]
    exact b2.trans ⟨rfl, rfl, rfl, by simp [World.setRow], fun k hk => setRow_other _ _ _ _ (by omega)⟩
  have S2 := (hs.sb hc (R := w.heap.size) (Nat.le_refl _)).below b3
  have HC := Lib.hid (reade_any w.heap.size a len cap bs i w2 S2 R2)
  have HW2 := Lib.hid hw2
  have HB2 := Lib.hid b3
  generalize rdE bs i = r at *
  obtain ⟨er, c', s', a'⟩ := r
  unfold Re.val at HC ⊢
  clear hs hc b2 R2 S2 N0 hw2 b3
  go_enter Try.func24, Try.ntmps24
  go_wp2_with (refine wpList_store_row rfl 72 _ _ rfl w.heap.size #[.slice a len cap, .int .i64 i, .int .i64 0, .int .i64 0, .int .i64 0, .int .i64 0, .int .i64 0, .int .i64 0, .int .i64 0, .int .i64 0] rfl rfl 72 _ HN0.out hi2 rfl (by simp [Value.oneCell']) ?_)
  rw [← HW2.out]
  refine HC.out.mono ?_
  rintro e w3 ⟨rfl, hl3⟩
  have G3 := Lib.hid (hl3.below HB2.out (Nat.le_refl _) HB2.out.size)
  clear hl3 HC HB2 HN0 HW2
  go_wp2
  refine bodyPost_ret (results_tmp4 rfl _ _ _) rfl ⟨rfl, G3.out⟩
end Go.Proofs.Ytheffpihhmdceaa
