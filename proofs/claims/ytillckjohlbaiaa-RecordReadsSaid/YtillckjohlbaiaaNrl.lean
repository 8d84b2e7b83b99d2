/- Contracts of record.ReadLocal and record.ReadCentral. -/
import Derived.Test.YtillckjohlbaiaaNread

namespace Go.Proofs.Ytillckjohlbaiaa
set_option maxRecDepth 100000
open Go.RowKit

/-- What a reader tells. -/
structure Rd where
  err : Int
  name : List Nat
  m : Int
  s : Int
  p : Int
  z : Int
  a : Int
  place : Int
def rdBad (e : Int) : Rd := ⟨e, [], 0, 0, 0, 0, 0, 0⟩
def Rd.val (r : Rd) : Value := .tuple #[rv (strB r.name) r.m r.s r.p r.z r.a, .int .i64 r.place, .int .i64 r.err]

/-- The numbers at a place. -/
def g2 (xs : List Nat) (k : Nat) : Int := (nm ((xs.drop k).take 2) : Nat)
def g4 (xs : List Nat) (k : Nat) : Int := (nm ((xs.drop k).take 4) : Nat)
theorem nm2_lt {l : List Nat} (h : ∀ x ∈ l, x < 256) : nm (l.take 2) < 65536 := by
  exact match l, h with
  | [], _ => by show (0 : Nat) < 65536; decide
  | [x], _ => by show (0 : Nat) < 65536; decide
  | x :: y :: l, h => by
    have h1 := h x (by simp)
    have h2 := h y (by simp)
    show x + 256 * y < 65536
    omega
theorem g2_drop (bs : List Nat) (i k : Nat) : g2 (bs.drop i) k = (nm ((bs.drop (i + k)).take 2) : Nat) := by unfold g2; rw [List.drop_drop]
theorem g4_drop (bs : List Nat) (i k : Nat) : g4 (bs.drop i) k = (nm ((bs.drop (i + k)).take 4) : Nat) := by unfold g4; rw [List.drop_drop]

theorem read_gen (gf R : Nat) (L : List (Nat × Int)) (hseq : SeqFix Try.prog gf #[.pointer (some ⟨R, 3, none⟩)] #[] (L.map (fw R 3))) (eg : ∀ args w, (callFunc gf args).run Try.prog w = .ok (.enter gf args) w)
    (hL : ∀ p ∈ L, p.2 = (p.2.toNat : Int) ∧ (p.2.toNat = 2 ∨ p.2.toNat = 4) ∧ p.1 < 16) (hsum : sumw L ≤ 900) (mk : List Nat) (hmk : ∀ x ∈ mk, x < 256) (hml : mk.length = 4)
    (a : Option Addr) (len cap : Nat) (bs : List Nat) (i : Int) (x0 x1 x2 x3 x4 x5 x6 x7 x8 x9 x10 x11 x12 x13 x14 x15 : Int) (n : Nat) (h9 : x9 = (n : Int)) (hn : n ≤ 65535) (hfill : ∀ j : Nat, i = (j : Int) → fill bs (j + 4) L z16 = [x0, x1, x2, x3, x4, x5, x6, x7, x8, x9, x10, x11, x12, x13, x14, x15])
    (w : World) (hs : Sb w R a len cap bs) (hr : Rs w R 80 (.slice a len cap) i 0 z16) :
    Calls Try.prog 37 #[.pointer (some ⟨R, 0, none⟩), .string (strB mk), .func (.func gf) #[.pointer (some ⟨R, 3, none⟩)] #[]] w fun e w' =>
      e = .returned (Rd.val (if pe len i (4 + sumw L) ≠ 0 then rdBad (pe len i (4 + sumw L)) else if (bs.drop i.toNat).take 4 ≠ mk then rdBad 15 else if mbH x1 x2 x3 x9 x10 x11 x12 = false then rdBad 15
        else if len < i.toNat + 4 + sumw L + n then rdBad 4 else ⟨0, (bs.drop (i.toNat + 4 + sumw L)).take n, x3, x6, x7, x8, x15, ((i.toNat + 4 + sumw L + n : Nat) : Int)⟩)) ∧ Lo R 1 w w' := by
  by_cases h1 : pe len i (4 + sumw L) ≠ 0
  · rw [if_pos h1]
    have hb : (pe len i (4 + sumw L) == 0) = false := by rw [beq_eq_false_iff_ne]; exact h1
    exact read_fault R _ (strB mk) _ a len cap bs i i (pe len i (4 + sumw L)) hb w (fun W hS hR => (callsIn_wide.1 (header_short gf R 16 _ L hseq eg hL hsum mk hmk hml W a len cap bs i hS hR hb))) hs hr
  · rw [if_neg h1]
    have h1 : pe len i (4 + sumw L) = 0 := Decidable.not_not.1 h1
    have hij : 0 ≤ i ∧ i + (4 + sumw L : Nat) ≤ len := by
      unfold pe at h1
      split at h1
      · omega
      · split at h1 <;> omega
    obtain ⟨j, rfl⟩ : ∃ j : Nat, i = (j : Int) := ⟨i.toNat, by omega⟩
    have hjn : ((j : Int).toNat) = j := by omega
    rw [hjn]
    have hle : j + (4 + sumw L) ≤ len := by omega
    by_cases h2 : (bs.drop j).take 4 ≠ mk
    · rw [if_pos h2]
      exact read_fault R _ (strB mk) _ a len cap bs j _ 15 (by decide) w (fun W hS hR => (callsIn_wide.1 (header_mark gf R 16 _ L hseq eg hL hsum mk hmk hml W a len cap bs j hS hR hle h2))) hs hr
    · rw [if_neg h2]
      have h2 : (bs.drop j).take 4 = mk := Decidable.not_not.1 h2
      have hf := hfill j rfl
      have HD : ∀ W, Sb W R a len cap bs → Rs W R 80 (.slice a len cap) (j : Int) 0 z16 → Calls Try.prog 73 #[.pointer (some ⟨R, 0, none⟩), .string (strB mk), .func (.func gf) #[.pointer (some ⟨R, 3, none⟩)] #[]] W fun e w' => e = .returned (.tuple #[]) ∧ Rs w' R 80 (.slice a len cap) ((j + 4 + sumw L : Nat) : Int) 0 [x0, x1, x2, x3, x4, x5, x6, x7, x8, x9, x10, x11, x12, x13, x14, x15] ∧ Sb w' R a len cap bs ∧ Lo R 1 W w' := by
        intro W hS hR
        have := callsIn_wide.1 (header_ok gf R 16 _ L hseq eg hL hsum mk hmk hml W a len cap bs j hS hR hle h2)
        rw [z16_is, hf] at this
        exact this
      by_cases h3 : mbH x1 x2 x3 x9 x10 x11 x12 = false
      · rw [if_pos h3]
        exact read_format R _ (strB mk) _ a len cap bs j _ x0 x1 x2 x3 x4 x5 x6 x7 x8 x9 x10 x11 x12 x13 x14 x15 h3 w HD hs hr
      · rw [if_neg h3]
        have h3 : mbH x1 x2 x3 x9 x10 x11 x12 = true := by simpa using h3
        subst h9
        by_cases h4 : len < j + 4 + sumw L + n
        · rw [if_pos h4]
          exact read_short R _ (strB mk) _ a len cap bs j (j + 4 + sumw L) n hn (by omega) h4 x0 x1 x2 x3 x4 x5 x6 x7 x8 x10 x11 x12 x13 x14 x15 h3 w HD hs hr
        · rw [if_neg h4]
          exact read_ok R _ (strB mk) _ a len cap bs j (j + 4 + sumw L) n hn (by omega) x0 x1 x2 x3 x4 x5 x6 x7 x8 x10 x11 x12 x13 x14 x15 h3 w HD hs hr

/-- What ReadLocal tells. -/
def rdL (bs : List Nat) (i : Int) : Rd :=
  if pe bs.length i 30 ≠ 0 then rdBad (pe bs.length i 30) else if (bs.drop i.toNat).take 4 ≠ [80, 75, 3, 4] then rdBad 15
  else if mbH (g2 (bs.drop i.toNat) 4) (g2 (bs.drop i.toNat) 6) (g2 (bs.drop i.toNat) 8) (g2 (bs.drop i.toNat) 26) (g2 (bs.drop i.toNat) 28) 0 0 = false then rdBad 15
  else if bs.length < i.toNat + 30 + (g2 (bs.drop i.toNat) 26).toNat then rdBad 4
  else ⟨0, (bs.drop (i.toNat + 30)).take (g2 (bs.drop i.toNat) 26).toNat, g2 (bs.drop i.toNat) 8, g4 (bs.drop i.toNat) 14, g4 (bs.drop i.toNat) 18, g4 (bs.drop i.toNat) 22, 0, ((i.toNat + 30 + (g2 (bs.drop i.toNat) 26).toNat : Nat) : Int)⟩
/-- What ReadCentral tells. -/
def rdC (bs : List Nat) (i : Int) : Rd :=
  if pe bs.length i 46 ≠ 0 then rdBad (pe bs.length i 46) else if (bs.drop i.toNat).take 4 ≠ [80, 75, 1, 2] then rdBad 15
  else if mbH (g2 (bs.drop i.toNat) 6) (g2 (bs.drop i.toNat) 8) (g2 (bs.drop i.toNat) 10) (g2 (bs.drop i.toNat) 28) (g2 (bs.drop i.toNat) 30) (g2 (bs.drop i.toNat) 32) (g2 (bs.drop i.toNat) 34) = false then rdBad 15
  else if bs.length < i.toNat + 46 + (g2 (bs.drop i.toNat) 28).toNat then rdBad 4
  else ⟨0, (bs.drop (i.toNat + 46)).take (g2 (bs.drop i.toNat) 28).toNat, g2 (bs.drop i.toNat) 10, g4 (bs.drop i.toNat) 16, g4 (bs.drop i.toNat) 20, g4 (bs.drop i.toNat) 24, g4 (bs.drop i.toNat) 42, ((i.toNat + 46 + (g2 (bs.drop i.toNat) 28).toNat : Nat) : Int)⟩

theorem g2_nat (xs : List Nat) (k : Nat) : g2 xs k = ((g2 xs k).toNat : Int) := rfl
theorem g2_lt {xs : List Nat} (h : ∀ x ∈ xs, x < 256) (k : Nat) : (g2 xs k).toNat ≤ 65535 := by
  have := nm2_lt (l := xs.drop k) (fun x hx => h x (List.mem_of_mem_drop hx))
  show nm _ ≤ 65535
  omega
theorem drop_byte {bs : List Nat} (h : ∀ x ∈ bs, x < 256) (k : Nat) : ∀ x ∈ bs.drop k, x < 256 := fun x hx => h x (List.mem_of_mem_drop hx)

theorem read_local (R : Nat) (a : Option Addr) (len cap : Nat) (bs : List Nat) (i : Int) (w : World) (hs : Sb w R a len cap bs) (hr : Rs w R 80 (.slice a len cap) i 0 z16) :
    Calls Try.prog 37 #[.pointer (some ⟨R, 0, none⟩), .string ⟨#[80, 75, 3, 4]⟩, .func (.func 38) #[.pointer (some ⟨R, 3, none⟩)] #[]] w fun e w' =>
      e = .returned (Rd.val (rdL bs i)) ∧ Lo R 1 w w' := by
  have hl := hs.1.len.1
  have h8 := hs.1.bytes
  have h := read_gen 38 R bothL (local_seq R 3) (enters_of Try.func38 (by kernel_rfl) rfl) (by decide) (by decide) [80, 75, 3, 4] (by decide) rfl a len cap bs i
    0 (g2 (bs.drop i.toNat) 4) (g2 (bs.drop i.toNat) 6) (g2 (bs.drop i.toNat) 8) (g2 (bs.drop i.toNat) 10) (g2 (bs.drop i.toNat) 12) (g4 (bs.drop i.toNat) 14) (g4 (bs.drop i.toNat) 18) (g4 (bs.drop i.toNat) 22) (g2 (bs.drop i.toNat) 26) (g2 (bs.drop i.toNat) 28) 0 0 0 0 0
    (g2 (bs.drop i.toNat) 26).toNat (g2_nat _ _) (g2_lt (drop_byte h8 _) 26) (fun j hj => by
      subst hj
      rw [show ((j : Int).toNat) = j from by omega]
      simp only [g2_drop, g4_drop]
      rfl) w hs hr
  rw [hl] at h
  exact h

theorem read_central (R : Nat) (a : Option Addr) (len cap : Nat) (bs : List Nat) (i : Int) (w : World) (hs : Sb w R a len cap bs) (hr : Rs w R 80 (.slice a len cap) i 0 z16) :
    Calls Try.prog 37 #[.pointer (some ⟨R, 0, none⟩), .string ⟨#[80, 75, 1, 2]⟩, .func (.func 42) #[.pointer (some ⟨R, 3, none⟩)] #[]] w fun e w' =>
      e = .returned (Rd.val (rdC bs i)) ∧ Lo R 1 w w' := by
  have hl := hs.1.len.1
  have h8 := hs.1.bytes
  have h := read_gen 42 R centralL (central_seq R 3) (enters_of Try.func42 (by kernel_rfl) rfl) (by decide) (by decide) [80, 75, 1, 2] (by decide) rfl a len cap bs i
    (g2 (bs.drop i.toNat) 4) (g2 (bs.drop i.toNat) 6) (g2 (bs.drop i.toNat) 8) (g2 (bs.drop i.toNat) 10) (g2 (bs.drop i.toNat) 12) (g2 (bs.drop i.toNat) 14) (g4 (bs.drop i.toNat) 16) (g4 (bs.drop i.toNat) 20) (g4 (bs.drop i.toNat) 24) (g2 (bs.drop i.toNat) 28) (g2 (bs.drop i.toNat) 30) (g2 (bs.drop i.toNat) 32) (g2 (bs.drop i.toNat) 34) (g2 (bs.drop i.toNat) 36) (g4 (bs.drop i.toNat) 38) (g4 (bs.drop i.toNat) 42)
    (g2 (bs.drop i.toNat) 28).toNat (g2_nat _ _) (g2_lt (drop_byte h8 _) 28) (fun j hj => by
      subst hj
      rw [show ((j : Int).toNat) = j from by omega]
      simp only [g2_drop, g4_drop]
      rfl) w hs hr
  rw [hl] at h
  exact h

theorem Sl.sb {w : World} {a : Option Addr} {len cap : Nat} {bs : List Nat} (h : Sl w (.slice a len cap) bs) (hc : len ≤ cap) {R : Nat} (hR : w.heap.size ≤ R) : Sb w R a len cap bs := by
  refine ⟨h, hc, fun ad h0 e => ?_⟩
  obtain ⟨a', len', cap', he, _, _, _, _, h5⟩ := h
  injection he with e1 e2 e3
  subst e1 e2 e3
  obtain ⟨b, off, e', hlt, _⟩ := h5 h0
  rw [e] at e'
  injection e' with e'
  subst e'
  exact Nat.lt_of_lt_of_le hlt hR

set_option maxHeartbeats 4000000 in
theorem readLocal_any (a : Option Addr) (len cap : Nat) (bs : List Nat) (i : Int) (hc : len ≤ cap) (w : World) (hs : Sl w (.slice a len cap) bs) :
    Calls Try.prog 8 #[.slice a len cap, .int .i64 i] w fun e w' => e = .returned (Rd.val (rdL bs i)) ∧ Below w.heap.size w w' := by
  have hi : (Try.prog.info? 25).map (·.size) = some 6 := by kernel_rfl
  have hi2 : (Try.prog.info? 80).map (·.size) = some 19 := by kernel_rfl
  have hb : ∀ W, (Instr.build 80 #[(0, .agg #[.slice a len cap, .int .i64 i, .int .i64 0])]).run Try.prog W = .ok (.agg #[.slice a len cap, .int .i64 i, .int .i64 0, .int .i64 0, .int .i64 0, .int .i64 0, .int .i64 0, .int .i64 0, .int .i64 0, .int .i64 0, .int .i64 0, .int .i64 0, .int .i64 0, .int .i64 0, .int .i64 0, .int .i64 0, .int .i64 0, .int .i64 0, .int .i64 0]) W := fun W => by kernel_rfl
  have N0 := Has.new (w.alloc (.cells #[.string ⟨#[]⟩, .int .i64 0, .int .i64 0, .int .i64 0, .int .i64 0, .int .i64 0] 25)) (.cells #[.slice none 0 0, .int .i64 0, .int .i64 0, .int .i64 0, .int .i64 0, .int .i64 0, .int .i64 0, .int .i64 0, .int .i64 0, .int .i64 0, .int .i64 0, .int .i64 0, .int .i64 0, .int .i64 0, .int .i64 0, .int .i64 0, .int .i64 0, .int .i64 0, .int .i64 0] 80)
  rw [World.size_alloc] at N0
  have B0 := (Has.new w (.cells #[.string ⟨#[]⟩, .int .i64 0, .int .i64 0, .int .i64 0, .int .i64 0, .int .i64 0] 25)).alloc (.cells #[.slice none 0 0, .int .i64 0, .int .i64 0, .int .i64 0, .int .i64 0, .int .i64 0, .int .i64 0, .int .i64 0, .int .i64 0, .int .i64 0, .int .i64 0, .int .i64 0, .int .i64 0, .int .i64 0, .int .i64 0, .int .i64 0, .int .i64 0, .int .i64 0, .int .i64 0] 80)
  have b2 := below2 w (.cells #[.string ⟨#[]⟩, .int .i64 0, .int .i64 0, .int .i64 0, .int .i64 0, .int .i64 0] 25) (.cells #[.slice none 0 0, .int .i64 0, .int .i64 0, .int .i64 0, .int .i64 0, .int .i64 0, .int .i64 0, .int .i64 0, .int .i64 0, .int .i64 0, .int .i64 0, .int .i64 0, .int .i64 0, .int .i64 0, .int .i64 0, .int .i64 0, .int .i64 0, .int .i64 0, .int .i64 0] 80)
  have z2 : ((w.alloc (.cells #[.string ⟨#[]⟩, .int .i64 0, .int .i64 0, .int .i64 0, .int .i64 0, .int .i64 0] 25)).alloc (.cells #[.slice none 0 0, .int .i64 0, .int .i64 0, .int .i64 0, .int .i64 0, .int .i64 0, .int .i64 0, .int .i64 0, .int .i64 0, .int .i64 0, .int .i64 0, .int .i64 0, .int .i64 0, .int .i64 0, .int .i64 0, .int .i64 0, .int .i64 0, .int .i64 0, .int .i64 0] 80)).heap.size = w.heap.size + 2 := by simp
  have HN0 := Lib.hid N0
  obtain ⟨w2, hw2⟩ : ∃ w2, w2 = ((w.alloc (.cells #[.string ⟨#[]⟩, .int .i64 0, .int .i64 0, .int .i64 0, .int .i64 0, .int .i64 0] 25)).alloc (.cells #[.slice none 0 0, .int .i64 0, .int .i64 0, .int .i64 0, .int .i64 0, .int .i64 0, .int .i64 0, .int .i64 0, .int .i64 0, .int .i64 0, .int .i64 0, .int .i64 0, .int .i64 0, .int .i64 0, .int .i64 0, .int .i64 0, .int .i64 0, .int .i64 0, .int .i64 0] 80)).setRow (w.heap.size + 1) #[.slice a len cap, .int .i64 i, .int .i64 0, .int .i64 0, .int .i64 0, .int .i64 0, .int .i64 0, .int .i64 0, .int .i64 0, .int .i64 0, .int .i64 0, .int .i64 0, .int .i64 0, .int .i64 0, .int .i64 0, .int .i64 0, .int .i64 0, .int .i64 0, .int .i64 0] := ⟨_, rfl⟩
  have R2 : Rs w2 (w.heap.size + 1) 80 (.slice a len cap) i 0 z16 := by rw [hw2]; exact setRow_heap _ _ _ _ _ _ N0
  have N2 : Has w2 w.heap.size (.cells #[.string ⟨#[]⟩, .int .i64 0, .int .i64 0, .int .i64 0, .int .i64 0, .int .i64 0] 25) := by rw [hw2]; exact (setRow_other _ _ _ _ (by omega)).trans B0
  have b3 : Below w.heap.size w w2 := by
    rw [hw2]
    exact b2.trans ⟨rfl, rfl, rfl, by simp [World.setRow], fun k hk => setRow_other _ _ _ _ (by omega)⟩
  have z3 : w2.heap.size = w.heap.size + 2 := by rw [hw2]; simp [World.setRow]
  have S2 := (hs.sb hc (R := w.heap.size + 1) (Nat.le_succ _)).below b3
  have HC := Lib.hid (read_local (w.heap.size + 1) a len cap bs i w2 S2 R2)
  have HW2 := Lib.hid hw2
  have HB2 := Lib.hid b3
  have HN := Lib.hid N2
  have HZ3 := Lib.hid z3
  generalize rdL bs i = r at *
  obtain ⟨er, nm', m', s', p', z', a', pl'⟩ := r
  unfold Rd.val rv at HC ⊢
  generalize strB nm' = S at *
  clear hs hc b2 R2 N2 S2 N0 B0 z2 hw2 b3 z3
  go_enter Try.func8, Try.ntmps8
  go_wp2_with (refine wpList_store_row rfl 80 _ _ rfl (w.heap.size + 1) #[.slice a len cap, .int .i64 i, .int .i64 0, .int .i64 0, .int .i64 0, .int .i64 0, .int .i64 0, .int .i64 0, .int .i64 0, .int .i64 0, .int .i64 0, .int .i64 0, .int .i64 0, .int .i64 0, .int .i64 0, .int .i64 0, .int .i64 0, .int .i64 0, .int .i64 0] rfl rfl 80 _ HN0.out hi2 rfl (by simp [Value.oneCell']) ?_)
  rw [← HW2.out]
  refine HC.out.mono ?_
  rintro e w3 ⟨rfl, hl3⟩
  have N3 := Lib.hid (hl3.has HN.out (Or.inl (by omega)))
  have G3 : Hid (w.heap.size + 2 ≤ w3.heap.size ∧ Below w.heap.size w w3) := ⟨by rw [← HZ3.out]; exact hl3.size, hl3.below HB2.out (Nat.le_succ _) HB2.out.size⟩
  have N4 := setRow_heap w3 w.heap.size _ #[.string S, .int .i64 m', .int .i64 s', .int .i64 p', .int .i64 z', .int .i64 a'] 25 (0, 0) N3.out
  have HN4 := Lib.hid N4
  clear hl3 N4 HC HB2 HN HN0 HW2 HZ3
  go_wp2_with (refine wpList_store_row rfl 25 _ _ rfl w.heap.size #[.string S, .int .i64 m', .int .i64 s', .int .i64 p', .int .i64 z', .int .i64 a'] rfl rfl 25 _ N3.out hi rfl (by simp [Value.oneCell']) ?_)
  refine bodyPost_ret (results_cell_tt rfl _ _ w.heap.size 25 _ (0, 0) _ rfl HN4.out Try.underlying25 rfl hi) rfl ⟨rfl, ?_⟩
  exact G3.out.2.trans ⟨rfl, rfl, rfl, by simp [World.setRow], fun k hk => setRow_other w3 w.heap.size k _ (by omega)⟩

set_option maxHeartbeats 4000000 in
theorem readCentral_any (a : Option Addr) (len cap : Nat) (bs : List Nat) (i : Int) (hc : len ≤ cap) (w : World) (hs : Sl w (.slice a len cap) bs) :
    Calls Try.prog 10 #[.slice a len cap, .int .i64 i] w fun e w' => e = .returned (Rd.val (rdC bs i)) ∧ Below w.heap.size w w' := by
  have hi : (Try.prog.info? 25).map (·.size) = some 6 := by kernel_rfl
  have hi2 : (Try.prog.info? 80).map (·.size) = some 19 := by kernel_rfl
  have hb : ∀ W, (Instr.build 80 #[(0, .agg #[.slice a len cap, .int .i64 i, .int .i64 0])]).run Try.prog W = .ok (.agg #[.slice a len cap, .int .i64 i, .int .i64 0, .int .i64 0, .int .i64 0, .int .i64 0, .int .i64 0, .int .i64 0, .int .i64 0, .int .i64 0, .int .i64 0, .int .i64 0, .int .i64 0, .int .i64 0, .int .i64 0, .int .i64 0, .int .i64 0, .int .i64 0, .int .i64 0]) W := fun W => by kernel_rfl
  have N0 := Has.new (w.alloc (.cells #[.string ⟨#[]⟩, .int .i64 0, .int .i64 0, .int .i64 0, .int .i64 0, .int .i64 0] 25)) (.cells #[.slice none 0 0, .int .i64 0, .int .i64 0, .int .i64 0, .int .i64 0, .int .i64 0, .int .i64 0, .int .i64 0, .int .i64 0, .int .i64 0, .int .i64 0, .int .i64 0, .int .i64 0, .int .i64 0, .int .i64 0, .int .i64 0, .int .i64 0, .int .i64 0, .int .i64 0] 80)
  rw [World.size_alloc] at N0
  have B0 := (Has.new w (.cells #[.string ⟨#[]⟩, .int .i64 0, .int .i64 0, .int .i64 0, .int .i64 0, .int .i64 0] 25)).alloc (.cells #[.slice none 0 0, .int .i64 0, .int .i64 0, .int .i64 0, .int .i64 0, .int .i64 0, .int .i64 0, .int .i64 0, .int .i64 0, .int .i64 0, .int .i64 0, .int .i64 0, .int .i64 0, .int .i64 0, .int .i64 0, .int .i64 0, .int .i64 0, .int .i64 0, .int .i64 0] 80)
  have b2 := below2 w (.cells #[.string ⟨#[]⟩, .int .i64 0, .int .i64 0, .int .i64 0, .int .i64 0, .int .i64 0] 25) (.cells #[.slice none 0 0, .int .i64 0, .int .i64 0, .int .i64 0, .int .i64 0, .int .i64 0, .int .i64 0, .int .i64 0, .int .i64 0, .int .i64 0, .int .i64 0, .int .i64 0, .int .i64 0, .int .i64 0, .int .i64 0, .int .i64 0, .int .i64 0, .int .i64 0, .int .i64 0] 80)
  have z2 : ((w.alloc (.cells #[.string ⟨#[]⟩, .int .i64 0, .int .i64 0, .int .i64 0, .int .i64 0, .int .i64 0] 25)).alloc (.cells #[.slice none 0 0, .int .i64 0, .int .i64 0, .int .i64 0, .int .i64 0, .int .i64 0, .int .i64 0, .int .i64 0, .int .i64 0, .int .i64 0, .int .i64 0, .int .i64 0, .int .i64 0, .int .i64 0, .int .i64 0, .int .i64 0, .int .i64 0, .int .i64 0, .int .i64 0] 80)).heap.size = w.heap.size + 2 := by simp
  have HN0 := Lib.hid N0
  obtain ⟨w2, hw2⟩ : ∃ w2, w2 = ((w.alloc (.cells #[.string ⟨#[]⟩, .int .i64 0, .int .i64 0, .int .i64 0, .int .i64 0, .int .i64 0] 25)).alloc (.cells #[.slice none 0 0, .int .i64 0, .int .i64 0, .int .i64 0, .int .i64 0, .int .i64 0, .int .i64 0, .int .i64 0, .int .i64 0, .int .i64 0, .int .i64 0, .int .i64 0, .int .i64 0, .int .i64 0, .int .i64 0, .int .i64 0, .int .i64 0, .int .i64 0, .int .i64 0] 80)).setRow (w.heap.size + 1) #[.slice a len cap, .int .i64 i, .int .i64 0, .int .i64 0, .int .i64 0, .int .i64 0, .int .i64 0, .int .i64 0, .int .i64 0, .int .i64 0, .int .i64 0, .int .i64 0, .int .i64 0, .int .i64 0, .int .i64 0, .int .i64 0, .int .i64 0, .int .i64 0, .int .i64 0] := ⟨_, rfl⟩
  have R2 : Rs w2 (w.heap.size + 1) 80 (.slice a len cap) i 0 z16 := by rw [hw2]; exact setRow_heap _ _ _ _ _ _ N0
  have N2 : Has w2 w.heap.size (.cells #[.string ⟨#[]⟩, .int .i64 0, .int .i64 0, .int .i64 0, .int .i64 0, .int .i64 0] 25) := by rw [hw2]; exact (setRow_other _ _ _ _ (by omega)).trans B0
  have b3 : Below w.heap.size w w2 := by
    rw [hw2]
    exact b2.trans ⟨rfl, rfl, rfl, by simp [World.setRow], fun k hk => setRow_other _ _ _ _ (by omega)⟩
  have z3 : w2.heap.size = w.heap.size + 2 := by rw [hw2]; simp [World.setRow]
  have S2 := (hs.sb hc (R := w.heap.size + 1) (Nat.le_succ _)).below b3
  have HC := Lib.hid (read_central (w.heap.size + 1) a len cap bs i w2 S2 R2)
  have HW2 := Lib.hid hw2
  have HB2 := Lib.hid b3
  have HN := Lib.hid N2
  have HZ3 := Lib.hid z3
  generalize rdC bs i = r at *
  obtain ⟨er, nm', m', s', p', z', a', pl'⟩ := r
  unfold Rd.val rv at HC ⊢
  generalize strB nm' = S at *
  clear hs hc b2 R2 N2 S2 N0 B0 z2 hw2 b3 z3
  go_enter Try.func10, Try.ntmps10
  go_wp2_with (refine wpList_store_row rfl 80 _ _ rfl (w.heap.size + 1) #[.slice a len cap, .int .i64 i, .int .i64 0, .int .i64 0, .int .i64 0, .int .i64 0, .int .i64 0, .int .i64 0, .int .i64 0, .int .i64 0, .int .i64 0, .int .i64 0, .int .i64 0, .int .i64 0, .int .i64 0, .int .i64 0, .int .i64 0, .int .i64 0, .int .i64 0] rfl rfl 80 _ HN0.out hi2 rfl (by simp [Value.oneCell']) ?_)
  rw [← HW2.out]
  refine HC.out.mono ?_
  rintro e w3 ⟨rfl, hl3⟩
  have N3 := Lib.hid (hl3.has HN.out (Or.inl (by omega)))
  have G3 : Hid (w.heap.size + 2 ≤ w3.heap.size ∧ Below w.heap.size w w3) := ⟨by rw [← HZ3.out]; exact hl3.size, hl3.below HB2.out (Nat.le_succ _) HB2.out.size⟩
  have N4 := setRow_heap w3 w.heap.size _ #[.string S, .int .i64 m', .int .i64 s', .int .i64 p', .int .i64 z', .int .i64 a'] 25 (0, 0) N3.out
  have HN4 := Lib.hid N4
  clear hl3 N4 HC HB2 HN HN0 HW2 HZ3
  go_wp2_with (refine wpList_store_row rfl 25 _ _ rfl w.heap.size #[.string S, .int .i64 m', .int .i64 s', .int .i64 p', .int .i64 z', .int .i64 a'] rfl rfl 25 _ N3.out hi rfl (by simp [Value.oneCell']) ?_)
  refine bodyPost_ret (results_cell_tt rfl _ _ w.heap.size 25 _ (0, 0) _ rfl HN4.out Try.underlying25 rfl hi) rfl ⟨rfl, ?_⟩
  exact G3.out.2.trans ⟨rfl, rfl, rfl, by simp [World.setRow], fun k hk => setRow_other w3 w.heap.size k _ (by omega)⟩
end Go.Proofs.Ytillckjohlbaiaa
