/- Contract of header.Read. -/
import Derived.Test.YtnjlljdbghcobaaGreatDoorKhead
import Derived.Test.YtnjlljdbghcobaaGreatDoorKrun

namespace Go.Proofs.YtnjlljdbghcobaaGreatDoor
set_option maxRecDepth 100000
open Go.RowKit

theorem header_any (R : Nat) (s : Value) (l : List Bool) (N p : Nat) (w : World) (hx : Has w R (rdr s N p)) (hs : Sl w s (Bs.pack l)) (hgl : Glob w) (hl : Hid (N = l.length)) (hN : N ≤ 2251799813685248) (hp : p ≤ N) :
    Calls Tryz.prog 196 #[.pointer (some ⟨R, 0, none⟩)] w (HeadPost R w s N (Hd.head l p)) := by
  have hl' : N = l.length := hl.out
  by_cases h1 : N < p + 10
  · rw [Hd.head_e1 (by omega)]; exact header_e1 R s l N p w hx hs hl hN hp h1
  · by_cases h3 : 286 < Hd.num l p 5 + 257 ∨ 30 < Hd.num l (p + 5) 5 + 1
    · rw [Hd.head_e3 (by omega) rfl rfl h3]; exact header_e3 R s l N p w hx hs hgl hl hN (by omega) h3
    · by_cases h4 : N < p + 14
      · rw [Hd.head_e4 (by omega) rfl rfl h3 (by omega)]; exact header_e4 R s l N p w hx hs hgl hl hN (by omega) h3 h4
      · by_cases h5 : N < p + 14 + 3 * (Hd.num l (p + 10) 4 + 4)
        · rw [Hd.head_e5 (by omega) rfl rfl rfl h3 (by omega)]; exact header_e5 R s l N p w hx hs hgl hl hN (by omega) h3 h5
        · by_cases h6 : newE (Hd.zz (Hd.cl l (p + 14) (Hd.num l (p + 10) 4 + 4))) = 0
          · rw [Hd.head_run (by omega) rfl rfl rfl rfl h3 (by omega) h6]; exact header_run R s l N p w hx hs hgl hl hN (by omega) h3 (by omega) h6
          · rw [Hd.head_e6 (by omega) rfl rfl rfl rfl h3 (by omega) h6]; exact header_e6 R s l N p w hx hs hgl hl hN (by omega) h3 (by omega) h6

/-- Of all blocks three alone may have turned. -/
structure Only3 (R L D : Nat) (w w' : World) : Prop where
  os : w'.os = w.os
  tape : w'.tape = w.tape
  output : w'.output = w.output
  size : w.heap.size ≤ w'.heap.size
  block : ∀ k, k < w.heap.size → k ≠ R → k ≠ L → k ≠ D → w'.heap[k]? = w.heap[k]?
theorem Only3.below {R L D B : Nat} {w w' : World} (h : Only3 R L D w w') (h1 : B ≤ R) (h2 : B ≤ L) (h3 : B ≤ D) (h4 : B ≤ w.heap.size) : Below B w w' :=
  ⟨h.os, h.tape, h.output, h.size, fun k hk => h.block k (by omega) (by omega) (by omega) (by omega)⟩
theorem Only.three {R : Nat} {w w' : World} (h : Only R w w') (L D : Nat) : Only3 R L D w w' := ⟨h.os, h.tape, h.output, h.size, fun k hk h1 _ _ => h.block k hk h1⟩

/-- What reading a header within 'caught' leaves. -/
def DoPost (R L D : Nat) (w : World) (s : Value) (N : Nat) (r : List Nat × List Nat × Nat × Int) (e : Ending) (w' : World) : Prop :=
  Only3 R L D w w' ∧ ((r.2.2.2 ≠ 0 ∧ e = .panicked (Pan r.2.2.2)) ∨ (r.2.2.2 = 0 ∧ e = .returned (.tuple #[]) ∧ ∃ s1 s2, Has w' L (.cells #[s1] 33 (0, 0)) ∧ Has w' D (.cells #[s2] 33 (0, 0)) ∧ Own w.heap.size w' s1 r.1 ∧ Own w.heap.size w' s2 r.2.1 ∧ Has w' R (rdr s N r.2.2.1)))

set_option maxRecDepth 100000 in
set_option maxHeartbeats 2000000 in
theorem do_any (R L D : Nat) (s : Value) (l : List Bool) (N p : Nat) (w : World) (hx : Has w R (rdr s N p)) (hL : Has w L (.cells #[.slice none 0 0] 33 (0, 0))) (hD : Has w D (.cells #[.slice none 0 0] 33 (0, 0))) (hRL : R ≠ L) (hRD : R ≠ D) (hLD : L ≠ D)
    (hs : Sl w s (Bs.pack l)) (hgl : Glob w) (hl : Hid (N = l.length)) (hN : N ≤ 2251799813685248) (hp : p ≤ N) :
    Calls Tryz.prog 195 #[.pointer (some ⟨R, 0, none⟩), .pointer (some ⟨L, 0, none⟩), .pointer (some ⟨D, 0, none⟩)] w (DoPost R L D w s N (Hd.head l p)) := by
  have HH := Lib.hid (header_any R s l N p w hx hs hgl hl hN hp)
  have HLL := Lib.hid hL
  have HDD := Lib.hid hD
  have hLlt := hL.lt
  have hDlt := hD.lt
  generalize Hd.head l p = r at HH ⊢
  clear hx hs hgl hL hD
  go_enter Tryz.func195, Tryz.ntmps195
  go_wp2_with fail
  refine HH.out.mono ?_
  clear HH
  intro e w1 h
  obtain ⟨ho, h⟩ := h
  rcases h with ⟨hc, rfl⟩ | ⟨hc, s1, s2, rfl, h1, h2, hx1⟩
  · exact ⟨rfl, ho.three L D, Or.inl ⟨hc, rfl⟩⟩
  · obtain ⟨c1, z1⟩ := (HLL.out.only ho (Ne.symm hRL)).one
    have HD1 := HDD.out.only ho (Ne.symm hRD)
    obtain ⟨c2, z2⟩ := HD1.one
    obtain ⟨a1, cap1, rfl⟩ := h1.shape
    obtain ⟨a2, cap2, rfl⟩ := h2.shape
    have hDL : ¬ D = L := Ne.symm hLD
    have HHL := Lib.hid (HLL.out.only ho (Ne.symm hRL))
    have HHD := Lib.hid HD1
    have HO := Lib.hid ho
    have H1 := Lib.hid h1
    have H2 := Lib.hid h2
    have HX := Lib.hid hx1
    have HC := Lib.hid hc
    clear ho h1 h2 hx1 hc HD1 HLL HDD
    obtain ⟨n1, hn1⟩ : ∃ n, n = r.1.length := ⟨_, rfl⟩
    obtain ⟨n2, hn2⟩ : ∃ n, n = r.2.1.length := ⟨_, rfl⟩
    rw [← hn1] at H1 ⊢
    rw [← hn2] at H2 ⊢
    clear hn1 hn2
    go_wp2
    have O1 := only_set w1 L 0 (.slice a1 n1 cap1)
    have O2 := only_set (w1.setCell ⟨L, 0, none⟩ (.slice a1 n1 cap1)) D 0 (.slice a2 n2 cap2)
    refine ⟨rfl, .tuple #[], by simp [results, Tryz.results195, go_sem], ?_, Or.inr ⟨HC.out, rfl, _, _, ?_, ?_, (H1.out.only O1 hLlt).only O2 hDlt, (H2.out.only O1 hLlt).only O2 hDlt, ?_⟩⟩
    · exact ⟨HO.out.os, HO.out.tape, HO.out.output, Nat.le_trans HO.out.size (by simp), fun k hk h1 h2 h3 => by
        rw [O2.block k (by simp; exact Nat.lt_of_lt_of_le hk HO.out.size) h3, O1.block k (Nat.lt_of_lt_of_le hk HO.out.size) h2]; exact HO.out.block k hk h1⟩
    · have := (HHL.out.setSelf (i := 0) (.slice a1 n1 cap1)).only O2 hLD
      simpa using this
    · have := (HHD.out.only O1 hDL).setSelf (i := 0) (.slice a2 n2 cap2)
      simpa using this
    · exact (HX.out.only O1 hRL).only O2 hRD

theorem head_bad (l : List Bool) (p : Nat) (c : Int) (hc : (Hd.head l p).2.2.2 = c) (h : c ≠ 0) : Hd.head l p = ([], [], 0, c) := by
  subst hc
  by_cases h1 : l.length < p + 10
  · rw [Hd.head_e1 h1]
  · by_cases h3 : 286 < Hd.num l p 5 + 257 ∨ 30 < Hd.num l (p + 5) 5 + 1
    · rw [Hd.head_e3 (by omega) rfl rfl h3]
    · by_cases h4 : l.length < p + 14
      · rw [Hd.head_e4 (by omega) rfl rfl h3 (by omega)]
      · by_cases h5 : l.length < p + 14 + 3 * (Hd.num l (p + 10) 4 + 4)
        · rw [Hd.head_e5 (by omega) rfl rfl rfl h3 (by omega)]
        · by_cases h6 : newE (Hd.zz (Hd.cl l (p + 14) (Hd.num l (p + 10) 4 + 4))) = 0
          · rw [Hd.head_run (by omega) rfl rfl rfl rfl h3 (by omega) h6] at h ⊢
            generalize Hd.runs _ _ _ _ _ _ = r at h ⊢
            by_cases h7 : r.2.2 = 0
            · rw [if_neg (by simpa using h7)] at h; exact absurd rfl h
            · rw [if_pos h7]
          · rw [Hd.head_e6 (by omega) rfl rfl rfl rfl h3 (by omega) h6]

/-- What header.Read leaves. -/
def ReadPost (w : World) (r : List Nat × List Nat × Nat × Int) (e : Ending) (w' : World) : Prop :=
  ∃ s1 s2, e = .returned (.tuple #[s1, s2, .int .i64 (r.2.2.1 : Int), .int .i64 r.2.2.2]) ∧ Own w.heap.size w' s1 r.1 ∧ Own w.heap.size w' s2 r.2.1 ∧ Below w.heap.size w w'

set_option maxRecDepth 100000 in
set_option maxHeartbeats 4000000 in
theorem hread_any (s : Value) (l : List Bool) (N p : Nat) (w : World) (hs : Sl w s (Bs.pack l)) (hgl : Glob w) (hl : Hid (N = l.length)) (hN : N ≤ 2251799813685248) (hp : p ≤ N) :
    Calls Tryz.prog 162 #[.agg #[s, .int .i64 (N : Int)], .int .i64 (p : Int)] w (ReadPost w (Hd.head l p)) := by
  have hmf : ∀ (fn : Fn) (first cap : Array Value) (w : World), (Instr.makeFunc fn first cap).run Tryz.prog w = .ok (.func fn first cap) w := fun _ _ _ _ => rfl
  obtain ⟨a, len, cap, rfl, hlen⟩ := hs.shape
  clear hlen
  have hb0 := below1 w (.cells #[.slice a len cap, .int .i64 (N : Int)] 36)
  have X0 := Lib.hid (Has.new w (.cells #[.slice a len cap, .int .i64 (N : Int)] 36))
  have HDO := Lib.hid (fun R L D w hx hL hD h1 h2 h3 hs hgl => do_any R L D (.slice a len cap) l N p w hx hL hD h1 h2 h3 hs hgl hl hN hp)
  have HBAD := Lib.hid (fun c h1 h2 => head_bad l p c h1 h2)
  have HC := Lib.hid (check_ok _ (Bs.pack l) N _ (hs.later hb0) (by omega) (by rw [hl.out]; exact Bs.pack_right l))
  have HS := Lib.hid hs
  have HG := Lib.hid hgl
  have HB := Lib.hid hb0
  have d1 : decide ((p : Int) < 0) = false := decide_eq_false (by omega)
  have d2 : decide ((N : Int) < (p : Int)) = false := decide_eq_false (by omega)
  have d3 : decide (N < p) = false := decide_eq_false (by omega)
  generalize Hd.head l p = r at HDO HBAD ⊢
  clear hs hgl hb0
  go_enter Tryz.func162, Tryz.ntmps162
  go_wp2_with fail
  refine HC.out.mono ?_
  clear HC
  rintro e w1 ⟨rfl, hb1⟩
  obtain ⟨c0, c1, _, _⟩ := (X0.out.later hb1).two
  have B1 := Lib.hid (HB.out.trans (hb1.mono HB.out.size))
  have S1 := Lib.hid (HS.out.later B1.out)
  have G1 := Lib.hid (HG.out.later B1.out)
  have d4 := (((X0.out.later hb1).alloc (.cells #[.slice none 0 0] 33)).alloc (.cells #[.slice none 0 0] 33)).two
  obtain ⟨e0, e1, _, _⟩ := d4
  clear hb1 X0 HS HG HB
  obtain ⟨w3, hw3⟩ : ∃ w3, w3 = (((w1.alloc (.cells #[.slice none 0 0] 33)).alloc (.cells #[.slice none 0 0] 33)).alloc (.cells #[.slice a len cap, .int .i64 (N : Int), .int .i64 (p : Int)] 262)) := ⟨_, rfl⟩
  have F3 : Below w3.heap.size w3 w3 := Below.refl _ _
  rw [hw3] at F3
  obtain ⟨L3, D3, R3, B3, Z3⟩ := facts3 F3
  rw [← hw3] at L3 D3 R3 B3 Z3
  have HL3 := Lib.hid L3
  have HD3 := Lib.hid D3
  have HR3 : Hid (Has w3 (w1.heap.size + 1 + 1) (rdr (.slice a len cap) N p)) := R3
  have HB3 := Lib.hid B3
  have HZ3 := Lib.hid Z3
  have be := below1 w3 (.cells #[.int .i64 0] 24)
  have hE := Has.new w3 (.cells #[.int .i64 0] 24)
  have HDO4 := Lib.hid (HDO.out (w1.heap.size + 1 + 1) w1.heap.size (w1.heap.size + 1) (w3.alloc (.cells #[.int .i64 0] 24)) (HR3.out.alloc _) (HL3.out.alloc _) (HD3.out.alloc _) (by omega) (by omega) (by omega) (S1.out.later (B3.trans (be.mono (by omega)))) (G1.out.later (B3.trans (be.mono (by omega)))))
  have HE := Lib.hid hE
  clear F3 L3 D3 R3 B3 Z3 be hE HDO
  go_wp2_with fail
  rw [← hw3]
  clear hw3 e0 e1
  have hEs : (w3.alloc (.cells #[.int .i64 0] 24)).heap.size = w3.heap.size + 1 := by simp
  by_cases hc : r.2.2.2 = 0
  · refine (caught_ok 195 _ w3 (fun w' => Only3 (w1.heap.size + 1 + 1) w1.heap.size (w1.heap.size + 1) (w3.alloc (.cells #[.int .i64 0] 24)) w' ∧ ∃ s1 s2, Has w' w1.heap.size (.cells #[s1] 33 (0, 0)) ∧ Has w' (w1.heap.size + 1) (.cells #[s2] 33 (0, 0)) ∧ Own (w3.heap.size + 1) w' s1 r.1 ∧ Own (w3.heap.size + 1) w' s2 r.2.1 ∧ Has w' (w1.heap.size + 1 + 1) (rdr (.slice a len cap) N r.2.2.1)) Tryz.call195 ?_).mono ?_
    · refine HDO4.out.mono ?_
      intro e w' h
      obtain ⟨h3, h⟩ := h
      rcases h with ⟨h, _⟩ | ⟨_, rfl, s1, s2, k1, k2, k3, k4, k5⟩
      · exact absurd hc h
      · rw [hEs] at k3 k4
        refine ⟨rfl, ?_, h3, s1, s2, k1, k2, k3, k4, k5⟩
        exact (h3.block w3.heap.size (by omega) (by have := HZ3.out; omega) (by have := HZ3.out; omega) (by have := HZ3.out; omega)).trans HE.out
    · rintro e w' ⟨rfl, w2, ⟨h3, s1, s2, k1, k2, k3, k4, k5⟩, rfl⟩
      obtain ⟨a1, cap1, rfl⟩ := k3.shape
      obtain ⟨a2, cap2, rfl⟩ := k4.shape
      have hz := HZ3.out
      have hz2 := h3.size
      have q1 := (k1.set (a := ⟨w3.heap.size, 0, none⟩) (by simp only; omega) (.int .i64 0)).one.1
      have q2 := (k2.set (a := ⟨w3.heap.size, 0, none⟩) (by simp only; omega) (.int .i64 0)).one.1
      have q3 := (rdr_cells (k5.set (a := ⟨w3.heap.size, 0, none⟩) (by simp only; omega) (.int .i64 0))).2.2.1
      have O5 := only_set w2 w3.heap.size 0 (.int .i64 0)
      have K3 := Lib.hid ((k3.only O5 (by omega)).weaken (base' := w.heap.size) (by have := B1.out.size; omega))
      have K4 := Lib.hid ((k4.only O5 (by omega)).weaken (base' := w.heap.size) (by have := B1.out.size; omega))
      have BF : Hid (Below w.heap.size w (w2.setCell ⟨w3.heap.size, 0, none⟩ (.int .i64 0))) := by
        have g1 := (((HB3.out.trans ((Below.refl _ _).alloc (Nat.le_trans (by omega) (Nat.le_refl _)) _)).trans (h3.below (B := w1.heap.size) (by omega) (by omega) (by omega) (by omega))).setCell (p := ⟨w3.heap.size, 0, none⟩) (by simp only; omega) (.int .i64 0))
        exact B1.out.trans (g1.mono B1.out.size)
      generalize w2.setCell ⟨w3.heap.size, 0, none⟩ (.int .i64 0) = w5 at q1 q2 q3 K3 K4 BF ⊢
      obtain ⟨n1, hn1⟩ : ∃ n, n = r.1.length := ⟨_, rfl⟩
      obtain ⟨n2, hn2⟩ : ∃ n, n = r.2.1.length := ⟨_, rfl⟩
      obtain ⟨q, hq⟩ : ∃ q, q = r.2.2.1 := ⟨_, rfl⟩
      rw [← hn1] at q1 K3
      rw [← hn2] at q2 K4
      rw [← hq] at q3
      have HQ := Lib.hid hq
      have HC := Lib.hid hc
      clear h3 k1 k2 k3 k4 k5 hz hz2 O5 hn1 hn2 hq hc hEs
      go_wp2
      go_quiet (fail)
      go_wp2
      refine bodyPost_ret (v := .tuple #[.slice a1 n1 cap1, .slice a2 n2 cap2, .int .i64 (q : Int), .int .i64 0]) (by simp [results, Tryz.results162, go_sem]) rfl ⟨.slice a1 n1 cap1, .slice a2 n2 cap2, ?_, ?_, ?_, below_drewN BF.out _⟩
      · rw [← HQ.out, HC.out]
      · exact K3.out
      · exact K4.out
  · obtain ⟨c, hcc⟩ : ∃ c, c = r.2.2.2 := ⟨_, rfl⟩
    rw [← hcc] at hc
    have hr := HBAD.out c hcc.symm hc
    subst hr
    clear hcc HBAD
    refine (caught_bad 195 _ w3 c (fun w' => Only3 (w1.heap.size + 1 + 1) w1.heap.size (w1.heap.size + 1) (w3.alloc (.cells #[.int .i64 0] 24)) w') Tryz.call195 ?_).mono ?_
    · refine HDO4.out.mono ?_
      intro e w' h
      obtain ⟨h3, h⟩ := h
      rcases h with ⟨_, rfl⟩ | ⟨h, _⟩
      · refine ⟨rfl, ?_, h3⟩
        exact (h3.block w3.heap.size (by omega) (by have := HZ3.out; omega) (by have := HZ3.out; omega) (by have := HZ3.out; omega)).trans HE.out
      · exact absurd h hc
    · rintro e w' ⟨rfl, w2, h3, rfl⟩
      have hz := HZ3.out
      have hz2 := h3.size
      have BF : Hid (Below w.heap.size w (w2.setCell ⟨w3.heap.size, 0, none⟩ (.int .i64 c))) := by
        have g1 := (((HB3.out.trans ((Below.refl _ _).alloc (Nat.le_trans (by omega) (Nat.le_refl _)) _)).trans (h3.below (B := w1.heap.size) (by omega) (by omega) (by omega) (by omega))).setCell (p := ⟨w3.heap.size, 0, none⟩) (by simp only; omega) (.int .i64 c))
        exact B1.out.trans (g1.mono B1.out.size)
      generalize w2.setCell ⟨w3.heap.size, 0, none⟩ (.int .i64 c) = w5 at BF ⊢
      have j1 : (c != 0) = true := by rw [bne_iff_ne]; exact hc
      clear h3 hz hz2 hEs hc
      go_wp2
      refine bodyPost_ret (v := .tuple #[.slice none 0 0, .slice none 0 0, .int .i64 0, .int .i64 c]) (by simp [results, Tryz.results162, go_sem]) rfl ⟨.slice none 0 0, .slice none 0 0, rfl, Own.nil _ _, Own.nil _ _, BF.out⟩
end Go.Proofs.YtnjlljdbghcobaaGreatDoor

/- Contract of slices.Max over lengths; what a header's lists are long. -/
namespace Go.Proofs.YtnjlljdbghcobaaGreatDoor
set_option maxRecDepth 100000
open Go.RowKit

set_option maxHeartbeats 4000000 in
theorem max_any (base : Nat) (v : Value) (xs : List Nat) (w : World) (ho : Own base w v xs) (h0 : 0 < xs.length) (h9 : xs.length ≤ 1000) :
    Calls Tryz.prog 163 #[v] w fun e w' => ∃ m : Nat, e = .returned (.int .i64 (m : Int)) ∧ w = w' ∧ (m = 0 ↔ ∀ x ∈ xs, x = 0) := by
  obtain ⟨b, off, cap, rfl, hoff, hc⟩ := own_cell ho h0
  clear hoff
  have HC : Hid (∀ k, k < xs.length → w.cell? ⟨b, off + k, none⟩ = some (.int .i64 ((xs[k]?.getD 0 : Nat) : Int))) := by
    intro k hk
    rw [hc k (by omega), vn_get, List.getElem?_eq_getElem hk]
    rfl
  have c0 : w.cell? ⟨b, off, none⟩ = some (.int .i64 ((xs[0]?.getD 0 : Nat) : Int)) := HC.out 0 h0
  obtain ⟨n, hn⟩ : ∃ n, n = xs.length := ⟨_, rfl⟩
  rw [← hn] at h0 h9 HC ⊢
  have HN := Lib.hid hn
  obtain ⟨x0, hx0⟩ : ∃ x0, x0 = xs[0]?.getD 0 := ⟨_, rfl⟩
  rw [← hx0] at c0
  have HX0 := Lib.hid hx0
  have hn1 : ¬ n < 1 := by omega
  have d1 : decide ((n : Int) < 1) = false := by simp; omega
  clear ho hc hn hx0
  go_enter Tryz.func163, Tryz.ntmps163
  go_wp2_with fail
  go_loopw [3, 4] (fun s3 s4 wr => ∃ a j : Nat, s3 = .int .i64 (a : Int) ∧ s4 = .int .i64 (j : Int) ∧ 1 ≤ j ∧ j ≤ n ∧ w = wr ∧ Hid (Unit → (a = 0 ↔ ∀ x ∈ xs.take j, x = 0))) (fun _ s _ => n - (intOf s).toNat)
  case atStart =>
    refine ⟨x0, 1, rfl, rfl, Nat.le_refl _, by omega, rfl, fun _ => ?_⟩
    have h := HX0.out
    have hl := HN.out
    cases xs with
    | nil => simp at hl; omega
    | cons y ys => simp at h; subst h; simp
  case round =>
    obtain ⟨a, j, rfl, rfl, hj1, hj, rfl, KA⟩ := hrel
    by_cases hlt : j < n
    · have cj := HC.out j hlt
      obtain ⟨y, hy⟩ : ∃ y, y = xs[j]?.getD 0 := ⟨_, rfl⟩
      rw [← hy] at cj
      have hj2 : j < xs.length := by rw [← HN.out]; exact hlt
      obtain ⟨a2, ha2⟩ : ∃ a2 : Nat, a2 = max a y := ⟨_, rfl⟩
      have hmx : max (a : Int) (y : Int) = (a2 : Int) := by rw [ha2]; omega
      have KA2 : Hid (Unit → (a2 = 0 ↔ ∀ x ∈ xs.take (j + 1), x = 0)) := fun _ => by
        rw [List.take_add_one, List.getElem?_eq_getElem hj2]
        have e : y = xs[j] := by rw [hy, List.getElem?_eq_getElem hj2]; rfl
        have h := KA.out ()
        constructor
        · intro h2 x hx
          rw [List.mem_append] at hx
          rcases hx with hx | hx
          · exact h.1 (by omega) x hx
          · simp at hx; omega
        · intro h2
          have h3 := h.2 (fun x hx => h2 x (List.mem_append_left _ hx))
          have h4 := h2 y (by rw [e]; exact List.mem_append_right _ (by simp))
          omega
      clear KA hy ha2 hj2
      go_wp2_with fail
      go_roundw
      case rel => exact ⟨a2, j + 1, rfl, by go_num, by omega, by omega, trivial, KA2⟩
      case measure => simp [intOf]; omega
    · obtain rfl : j = n := by omega
      go_wp2_with fail
      go_ret
      refine ⟨a, rfl, rfl, ?_⟩
      have h := KA.out ()
      rw [HN.out, List.take_length] at h
      exact h

namespace Hd
theorem runs_len {ls : List Nat} {l : List Bool} {n : Nat} : ∀ (k : Nat) (acc : List Nat) (p : Nat), acc.length ≤ n → n - acc.length < k → (runs ls l n k acc p).2.2 = 0 → (runs ls l n k acc p).1.length = n := by
  intro k
  induction k with
  | zero => intro acc p _ h; omega
  | succ k ih =>
    intro acc p h1 h2 h3
    simp only [runs] at h3 ⊢
    by_cases a1 : n ≤ acc.length
    · rw [if_pos a1]; simp only; omega
    rw [if_neg a1] at h3 ⊢
    by_cases a2 : (rd ls l p).2.2 ≠ 0
    · rw [if_pos a2] at h3; exact absurd h3 a2
    rw [if_neg a2] at h3 ⊢
    by_cases a3 : l.length < (rd ls l p).2.1 + ex (rd ls l p).1
    · rw [if_pos a3] at h3; simp at h3
    rw [if_neg a3] at h3 ⊢
    generalize ht : take acc (rd ls l p).1 (num l (rd ls l p).2.1 (ex (rd ls l p).1)) n = t at h3 ⊢
    obtain ⟨x, c⟩ := t
    by_cases a4 : c ≠ 0
    · rw [if_pos a4] at h3; exact absurd h3 a4
    rw [if_neg a4] at h3 ⊢
    have hc : c = 0 := by simpa using a4
    subst hc
    have hl := take_length ht
    exact ih x _ hl.2 (by omega) h3

theorem head_lens {l : List Bool} {p q : Nat} {lit dist : List Nat} (h : head l p = (lit, dist, q, 0)) : 257 ≤ lit.length ∧ lit.length ≤ 286 ∧ 1 ≤ dist.length ∧ dist.length ≤ 30 := by
  unfold head at h
  by_cases a1 : l.length < p + 10
  · rw [if_pos a1] at h; simp at h
  rw [if_neg a1] at h
  by_cases a2 : 286 < num l p 5 + 257 ∨ 30 < num l (p + 5) 5 + 1
  · rw [if_pos a2] at h; simp at h
  rw [if_neg a2] at h
  by_cases a3 : l.length < p + 14
  · rw [if_pos a3] at h; simp at h
  rw [if_neg a3] at h
  by_cases a4 : l.length < p + 14 + 3 * (num l (p + 10) 4 + 4)
  · rw [if_pos a4] at h; simp at h
  rw [if_neg a4] at h
  by_cases a5 : newE (zz (cl l (p + 14) (num l (p + 10) 4 + 4))) ≠ 0
  · rw [if_pos a5] at h
    have h1 := (Prod.mk.inj (Prod.mk.inj (Prod.mk.inj h).2).2).2
    exact absurd h1 a5
  rw [if_neg a5] at h
  have hr := @runs_len (cl l (p + 14) (num l (p + 10) 4 + 4)) l (num l p 5 + 257 + (num l (p + 5) 5 + 1)) 400 [] (p + 14 + 3 * (num l (p + 10) 4 + 4)) (by simp) (by simp; omega)
  generalize runs (cl l (p + 14) (num l (p + 10) 4 + 4)) l (num l p 5 + 257 + (num l (p + 5) 5 + 1)) 400 [] (p + 14 + 3 * (num l (p + 10) 4 + 4)) = r at h hr
  by_cases a6 : r.2.2 ≠ 0
  · rw [if_pos a6] at h
    have h1 := (Prod.mk.inj (Prod.mk.inj (Prod.mk.inj h).2).2).2
    exact absurd h1 a6
  rw [if_neg a6] at h
  have hr := hr (by simpa using a6)
  obtain ⟨h1, h2⟩ := Prod.mk.inj h
  obtain ⟨h2, _⟩ := Prod.mk.inj h2
  subst h1 h2
  rw [List.length_take, List.length_drop, hr]
  omega
end Hd

namespace If
theorem dynamic_is (l : List Bool) (most p : Nat) (out lit dist : List Nat) (q : Nat) (c : Int) (h : Hd.head l p = (lit, dist, q, c)) :
    dynamic l most p out = if c ≠ 0 then ([], 0, c) else if lit[256]?.getD 0 = 0 then ([], 0, 13) else if newE (Hd.zz lit) ≠ 0 then ([], 0, newE (Hd.zz lit)) else
      if newE (Hd.zz dist) ≠ 0 ∧ ¬ (∀ x ∈ dist, x = 0) then ([], 0, newE (Hd.zz dist)) else syms l lit dist most (l.length + 1) out q := by
  unfold dynamic
  rw [h]
end If

/-- What comes of a list of lengths that is to be a table. -/
theorem new_any (ls : List Nat) (v : Value) (w : World) (base : Nat) (ho : Own base w v ls) (h9 : ls.length ≤ 1000) (c : Int) (he : newE (Hd.zz ls) = c) (hc : c ≠ 0) :
    Calls Tryz.prog 158 #[v] w fun e w' => e = .returned (.tuple #[.pointer none, .int .i64 c]) ∧ Below w.heap.size w w' := by
  subst he
  exact new_no (Hd.zz ls) v w (ho.zl (by omega)) hc
end Go.Proofs.YtnjlljdbghcobaaGreatDoor

/- Contract of inflate's reader: dynamic. -/
namespace Go.Proofs.YtnjlljdbghcobaaGreatDoor
set_option maxRecDepth 100000
open Go.RowKit

theorem blk_of_syms {K0 K K' : Nat → Prop} {R : Nat} {s : Value} {l : List Bool} {N most : Nat} {w w3 w' : World} {p : Nat} {ts : List If.Tk} {lv dv : Value} {res : List Nat × Nat × Int} {e : Ending} (hK : ∀ k, K0 k → K k) (hK' : ∀ k, K k → K' k) (hT : Ftabs K w ⟨p, ts, lv, dv⟩) (hf : Fr K w w3)
    (ho : Out K' w3 res.2.2 (.tuple #[]) (fun w' => ∃ ts', If.tell ts' = res.1 ∧ St K' R s l N most w' ⟨res.2.1, ts', lv, dv⟩) e w') : BlkPost K0 R s l N most w res e w' := by
  refine ⟨(hf.mono hK).trans (ho.1.mono fun k hk => hK' k (hK k hk)), fun hc => ?_, ho.2.2⟩
  obtain ⟨e1, ts', h1, h2⟩ := ho.2.1 hc
  refine ⟨e1, _, rfl, h1, K', fun k hk => hK' k (hK k hk), h2, ?_⟩
  rcases hT with h | ⟨h, h'⟩
  · exact Or.inl h
  · exact Or.inr ⟨((h.fr hf).mono hK').fr ho.1, ((h'.fr hf).mono hK').fr ho.1⟩

set_option maxHeartbeats 8000000 in
theorem dynamic_any {K0 : Nat → Prop} {R : Nat} {s : Value} {l : List Bool} {N most : Nat} {w : World} {r : Rv} (hX : Sx K0 R s l N most w r) (hl : Hid (N = l.length)) (hN : N ≤ 2251799813685248) (hm : most ≤ 65536)
    (res : List Nat × Nat × Int) (hres : Hid (Unit → If.dynamic l most r.p (If.tell r.ts) = res)) :
    Calls Tryz.prog 119 #[.pointer (some ⟨R, 0, none⟩)] w (BlkPost K0 R s l N most w res) := by
  obtain ⟨K, hK, hS, hT⟩ := hX
  have HK := Lib.hid hK
  have HS := Lib.hid hS
  have HT := Lib.hid hT
  obtain ⟨tv, hx, _, _⟩ := hS.has
  obtain ⟨c0, c1, c2, _⟩ := rdi_cells hx
  have hp := hS.pn
  obtain ⟨p, ts, lv, dvv⟩ := r
  simp only at c2 hp hres
  obtain ⟨lit, dist, q, c, hh⟩ : ∃ lit dist q c, Hd.head l p = (lit, dist, q, c) := ⟨_, _, _, _, rfl⟩
  have hst := If.dynamic_is l most p (If.tell ts) lit dist q c hh
  rw [hres.out ()] at hst
  have HST := Lib.hid (fun _ : Unit => hst)
  have HH := Lib.hid (fun _ : Unit => hh)
  obtain ⟨sa, sl, sc, rfl, hsl⟩ := hS.sl.shape
  clear hsl
  have HX := Lib.hid hx
  have HG := Lib.hid (fun W (hb : Below w.heap.size w W) => hread_any _ l N p W (hS.sl.later hb) (hS.gl.later hb) hl hN hp)
  rw [hh] at HG
  have B0 := Lib.hid (Below.refl w.heap.size w)
  have HP := Lib.hid hp
  clear hx hS hT hK hst hh hres hp
  go_enter Tryz.func119, Tryz.ntmps119
  go_wp2_with fail
  go_region_held3 (fun wx => wx.cell? ⟨R, 0, none⟩ = some (.slice sa sl sc) ∧ wx.cell? ⟨R, 1, none⟩ = some (.int .i64 (N : Int)) ∧ wx.cell? ⟨R, 2, none⟩ = some (.int .i64 (p : Int)) ∧ Below w.heap.size w wx) (first | exact ⟨c0, c1, c2, B0.out.drew⟩ | exact keep_rdi HX.out B0.out.drew hb1.out)
    (first | (go_at_call 162; refine (HG.out _ B0.out.drew).mono ?_; rintro e w1 ⟨s1, s2, rfl, o1, o2, hb⟩; have HO1 := Lib.hid o1; have HO2 := Lib.hid o2; have hb1 := Lib.hid hb; clear o1 o2 hb))
  have HB := Lib.hid (B0.out.drew.trans (hb1.out.mono (Nat.le_refl _)))
  clear c0 c1 c2
  have HLT0 : Hid (∀ k, K0 k → k < w.heap.size) := fun k hk => HS.out.lt k (HK.out k hk)
  by_cases hc : c = 0
  · subst hc
    have hx1 := HX.out.later HB.out
    obtain ⟨_, _, e2, _⟩ := rdi_cells hx1
    simp only at e2
    have y2 := rdi_free hx1 2
    have hfacts := If.head_facts (l := l) (p := p) (by rw [HH.out ()])
    rw [HH.out ()] at hfacts
    simp only at hfacts
    have hq : q ≤ N := by rw [hl.out]; exact hfacts.2
    have hlens := Hd.head_lens (HH.out ())
    have hpq : p < q := by omega
    have HS2 := Lib.hid ((HS.out.later HB.out).at q hq)
    have hOnly := only_set w1 R 2 (.int .i64 (q : Int))
    have hRlt : R < w.drew.heap.size := HX.out.lt
    have HP1 := Lib.hid (HO1.out.only hOnly hRlt)
    have HP2 := Lib.hid (HO2.out.only hOnly hRlt)
    have HFK : Hid (Fr K w (w1.setCell ⟨R, 2, none⟩ (.int .i64 (q : Int)))) := (Fr.of_below HS.out.lt HB.out).trans (Fr.of_only (HS.out.later HB.out).lt HS.out.ne hOnly)
    obtain ⟨b1, off1, cp1, hs1, hoff, hcell⟩ := own_cell HP1.out (by omega)
    have hc256 := hcell 256 (by omega)
    rw [vn_get, List.getElem?_eq_getElem (by omega)] at hc256
    simp only [Option.map_some] at hc256
    have hg256 : lit[256]?.getD 0 = lit[256]'(by omega) := by rw [List.getElem?_eq_getElem (by omega)]; rfl
    obtain ⟨x, hx⟩ : ∃ x, x = lit[256]'(by omega) := ⟨_, rfl⟩
    rw [← hx] at hc256 hg256
    have hst := HST.out ()
    rw [if_neg (by simp), hg256] at hst
    have HST2 := Lib.hid (fun _ : Unit => hst)
    obtain ⟨n1, hn1⟩ : ∃ n1, n1 = lit.length := ⟨_, rfl⟩
    obtain ⟨a2, cp2, hs2⟩ := HP2.out.shape
    obtain ⟨n2, hn2⟩ : ∃ n2, n2 = dist.length := ⟨_, rfl⟩
    rw [← hn1] at hs1
    rw [← hn2] at hs2
    subst hs1 hs2
    have hn1a : 257 ≤ n1 := by omega
    have hn1b : n1 ≤ 286 := by omega
    have HLEN := Lib.hid hlens
    clear hoff hcell hx hg256 hst hfacts hOnly hx1 hn1 hn2 hlens HO1 HO2 HG HST hb1
    by_cases hx0 : x = 0
    · have hst := HST2.out ()
      rw [if_pos hx0] at hst
      subst hst hx0
      clear HST2
      go_wp2_with fail
      refine (ineedInt_ok _ _).mono ?_
      rintro e w2 ⟨rfl, rfl⟩
      go_wp2_with fail
      exact ⟨rfl, Out.fault (by decide) (HFK.out.mono HK.out)⟩
    have hst := HST2.out ()
    rw [if_neg hx0] at hst
    have HST3 := Lib.hid (fun _ : Unit => hst)
    have dx : ((x : Int) == 0) = false := by simp; omega
    have dx2 : (x == 0) = false := by simp; omega
    clear hst HST2
    go_wp2_with fail
    refine (ineedInt_ok _ _).mono ?_
    rintro e w2 ⟨rfl, rfl⟩
    go_wp2_with fail
    clear dx dx2 hx0 hc256
    generalize w1.setCell ⟨R, 2, none⟩ (.int .i64 (q : Int)) = w2 at HS2 HP1 HP2 HFK ⊢
    clear e2 y2 HX HB
    obtain ⟨cl, hcl⟩ : ∃ cl, newE (Hd.zz lit) = cl := ⟨_, rfl⟩
    by_cases hcl0 : cl = 0
    · subst hcl0
      have HN := Lib.hid (new_tab lit _ w2 _ HP1.out (by have := HLEN.out; omega) hcl)
      have hst := HST3.out ()
      rw [if_neg (by simp [hcl])] at hst
      have HST4 := Lib.hid (fun _ : Unit => hst)
      clear hst HST3 hcl
      refine HN.out.mono ?_
      clear HN
      rintro e w3 ⟨T, g, capg, rfl, htb, hgood, hle, hle2, hb3⟩
      have HB3 := Lib.hid hb3
      have HTB := Lib.hid htb
      have HGOOD := Lib.hid hgood
      have HLE := Lib.hid (And.intro hle hle2)
      clear hb3 htb hgood hle hle2
      go_wp2_with fail
      refine (ineedTab_ok _ _).mono ?_
      rintro e w3' ⟨rfl, rfl⟩
      go_wp2_with fail
      refine (max_any _ _ dist w3 (HP2.out.keep HB3.out) (by have := HLEN.out; omega) (by have := HLEN.out; omega)).mono ?_
      rintro e w3' ⟨m, rfl, rfl, hmz⟩
      have HMZ := Lib.hid (fun _ : Unit => hmz)
      clear hmz
      by_cases hm0 : m = 0
      · have d1 : decide ((0 : Int) < (m : Int)) = false := by simp; omega
        have d2 : decide (0 < m) = false := by simp; omega
        have hall := (HMZ.out ()).1 hm0
        have hst := HST4.out ()
        rw [if_neg (by intro h; exact h.2 hall)] at hst
        have hS3 := HS2.out.widenSet HB3.out (fun k => k = T ∨ k = g) (by
          rintro k (rfl | rfl)
          · exact ⟨HLE.out.1, HTB.out.counts.lt⟩
          · exact ⟨HLE.out.2, HTB.out.syms.lt⟩)
        have hTL : TbK (fun k => K k ∨ (k = T ∨ k = g)) w3 (.pointer (some ⟨T, 0, none⟩)) lit := ⟨T, g, capg, rfl, HTB.out, HGOOD.out, Or.inr (Or.inl rfl), Or.inr (Or.inr rfl)⟩
        have HF3 : Hid (Fr K w w3) := HFK.out.trans (Fr.of_below HS2.out.lt HB3.out)
        have HC := Lib.hid (symbols_any (.pointer (some ⟨T, 0, none⟩)) (.pointer none) lit dist hTL (Or.inl ⟨rfl, hall⟩) hS3 hl hN hm (l.length + 1) (by rw [← hl.out]; simp only; omega) res (fun _ => hst.symm))
        clear hst hS3 hTL hall HMZ HST4
        go_wp2_with fail
        refine HC.out.mono ?_
        intro e w4 ho
        have hb := blk_of_syms HK.out (fun k hk => Or.inl hk) HT.out HF3.out ho
        by_cases hc : res.2.2 = 0
        · have e2 := (ho.2.1 hc).1
          subst e2
          have HOB := Lib.hid hb
          clear ho hb hc
          go_wp2
          refine ⟨rfl, .tuple #[], by simp [results, Tryz.results119, go_sem], HOB.out⟩
        · have e2 := ho.2.2 hc
          subst e2
          exact ⟨rfl, hb⟩
      · have d1 : decide ((0 : Int) < (m : Int)) = true := by simp; omega
        have d2 : decide (0 < m) = true := by simp; omega
        have hall : ¬ ∀ x ∈ dist, x = 0 := fun h => hm0 ((HMZ.out ()).2 h)
        have HALL := Lib.hid (fun _ : Unit => hall)
        obtain ⟨cd, hcd⟩ : ∃ cd, newE (Hd.zz dist) = cd := ⟨_, rfl⟩
        by_cases hcd0 : cd = 0
        · subst hcd0
          have hst := HST4.out ()
          rw [if_neg (by intro h; exact h.1 hcd)] at hst
          have HST5 := Lib.hid (fun _ : Unit => hst)
          have HN := Lib.hid (new_tab dist _ w3 _ (HP2.out.keep HB3.out) (by have := HLEN.out; omega) hcd)
          clear hst hall hcd HMZ HST4
          go_wp2_with fail
          refine HN.out.mono ?_
          clear HN
          rintro e w5 ⟨T2, g2, capg2, rfl, htb, hgood, hle, hle2, hb5⟩
          have hsz := HB3.out.size
          have hbb := HB3.out.trans (hb5.mono hsz)
          have htl := HTB.out.below hb5
          have hS3 := HS2.out.widenSet hbb (fun k => k = T ∨ k = g ∨ k = T2 ∨ k = g2) (by
            have h1 := HLE.out
            rintro k (rfl | rfl | rfl | rfl)
            · exact ⟨h1.1, htl.counts.lt⟩
            · exact ⟨h1.2, htl.syms.lt⟩
            · exact ⟨by omega, htb.counts.lt⟩
            · exact ⟨by omega, htb.syms.lt⟩)
          have hTL : TbK (fun k => K k ∨ (k = T ∨ k = g ∨ k = T2 ∨ k = g2)) w5 (.pointer (some ⟨T, 0, none⟩)) lit := ⟨T, g, capg, rfl, htl, HGOOD.out, Or.inr (Or.inl rfl), Or.inr (Or.inr (Or.inl rfl))⟩
          have hTD : TbK (fun k => K k ∨ (k = T ∨ k = g ∨ k = T2 ∨ k = g2)) w5 (.pointer (some ⟨T2, 0, none⟩)) dist := ⟨T2, g2, capg2, rfl, htb, hgood, Or.inr (Or.inr (Or.inr (Or.inl rfl))), Or.inr (Or.inr (Or.inr (Or.inr rfl)))⟩
          have HF3 : Hid (Fr K w w5) := HFK.out.trans (Fr.of_below HS2.out.lt hbb)
          have HC := Lib.hid (symbols_any (.pointer (some ⟨T, 0, none⟩)) (.pointer (some ⟨T2, 0, none⟩)) lit dist hTL (Or.inr ⟨hTD, HALL.out ()⟩) hS3 hl hN hm (l.length + 1) (by rw [← hl.out]; simp only; omega) res (fun _ => (HST5.out ()).symm))
          clear htb hgood hle hle2 hb5 hsz hbb htl hS3 hTL hTD HST5
          go_wp2_with fail
          refine (ineedTab_ok _ _).mono ?_
          rintro e w5' ⟨rfl, rfl⟩
          go_wp2_with fail
          refine HC.out.mono ?_
          intro e w4 ho
          have hb := blk_of_syms HK.out (fun k hk => Or.inl hk) HT.out HF3.out ho
          by_cases hc : res.2.2 = 0
          · have e2 := (ho.2.1 hc).1
            subst e2
            have HOB := Lib.hid hb
            clear ho hb hc
            go_wp2
            refine ⟨rfl, .tuple #[], by simp [results, Tryz.results119, go_sem], HOB.out⟩
          · have e2 := ho.2.2 hc
            subst e2
            exact ⟨rfl, hb⟩
        · have hst := HST4.out ()
          rw [if_pos ⟨by rw [hcd]; exact hcd0, hall⟩, hcd] at hst
          subst hst
          have HN := Lib.hid (new_any dist _ w3 _ (HP2.out.keep HB3.out) (by have := HLEN.out; omega) cd hcd hcd0)
          clear hall hcd HMZ HST4
          go_wp2_with fail
          refine HN.out.mono ?_
          clear HN
          rintro e w5 ⟨rfl, hb5⟩
          have HF5 : Hid (Fr K w w5) := (HFK.out.trans (Fr.of_below HS2.out.lt HB3.out)).trans (Fr.of_below (fun k hk => by have := HS2.out.lt k hk; have := HB3.out.size; omega) hb5)
          clear hb5
          go_wp2_with fail
          refine (ineedTab_bad _ cd hcd0 _).mono ?_
          rintro e w4 ⟨rfl, rfl⟩
          exact ⟨rfl, Out.fault hcd0 (HF5.out.mono HK.out)⟩
    · have HN := Lib.hid (new_any lit _ w2 _ HP1.out (by have := HLEN.out; omega) cl hcl hcl0)
      have hst := HST3.out ()
      rw [if_pos (by rw [hcl]; exact hcl0), hcl] at hst
      subst hst
      clear HST3 hcl
      refine HN.out.mono ?_
      clear HN
      rintro e w3 ⟨rfl, hb3⟩
      have HB3 := Lib.hid hb3
      clear hb3
      go_wp2_with fail
      refine (ineedTab_bad _ cl hcl0 _).mono ?_
      rintro e w4 ⟨rfl, rfl⟩
      exact ⟨rfl, Out.fault hcl0 ((HFK.out.trans (Fr.of_below HS2.out.lt HB3.out)).mono HK.out)⟩
  · have hst := HST.out ()
    rw [if_pos hc] at hst
    subst hst
    go_wp2_with fail
    refine (ineedInt_bad _ c hc _).mono ?_
    rintro e w2 ⟨rfl, rfl⟩
    exact ⟨rfl, Out.fault hc (Fr.of_below HLT0.out HB.out)⟩
end Go.Proofs.YtnjlljdbghcobaaGreatDoor
