/- The library's iterator over a slice of clients: slices.Values. -/
import Derived.Test.YtoipmdemicdhoaaQadd
import Derived.Test.YtoipmdemicdhoaaQrng

namespace Go.Proofs.Ytoipmdemicdhoaa
set_option maxRecDepth 100000
open Go.RowKit Go.Shelf

attribute [local go_sem] Oper.semAt_some

/-- What is told of a client. -/
def q1 (c : Nat × Bool) : Array Value := #[.agg #[.int .i64 (c.1 : Int), .bool c.2]]
/-- What the iterator reads: the slice v in the box T. -/
def QvK (T : Nat) (v : Value) (cs : List (Nat × Bool)) (W : World) : Prop := Has W T (.cells #[v] 63 (0, 0)) ∧ W.ownsRow 0 70 2 v cs.length (qc cs)

theorem qc_cells {w : World} {a : Option Addr} {n cap : Nat} {cs : List (Nat × Bool)} (h : w.ownsRow 0 70 2 (.slice a n cap) n (qc cs)) (hn : 0 < n) : ∃ g, a = some ⟨g, 0, none⟩ ∧ n ≤ cap ∧ cs.length = n ∧ ∀ j c, cs[j]? = some c → w.cell? ⟨g, j * 2, none⟩ = some (.int .i64 (c.1 : Int)) ∧ w.cell? ⟨g, j * 2 + 1, none⟩ = some (.bool c.2) := by
  obtain ⟨g, cap', e, -, hc, -⟩ := qo_at h hn
  cases e
  have hl : (qc cs).length = n * 2 := h.1
  rw [qc_length] at hl
  refine ⟨g, rfl, hc, by omega, fun j c hj => ?_⟩
  have hj2 := (List.getElem?_eq_some_iff.1 hj).1
  obtain ⟨e1, e2⟩ := qc_get cs j c hj
  exact ⟨(h.cellAt (j * 2) (by omega)).trans e1, (h.cellAt (j * 2 + 1) (by omega)).trans e2⟩

set_option maxRecDepth 100000 in
set_option maxHeartbeats 8000000 in
theorem values_seq (T : Nat) (v : Value) (cs : List (Nat × Bool)) (s : Nat) (hl : cs.length ≤ 1000) : SeqTurn Try.prog 44 #[] #[.pointer (some ⟨T, 0, none⟩)] (cs.map q1) s (fun _ => QvK T v cs) (fun _ A B => B = A) := by
  intro l J J' Jx W hJ hJ' hJx hK hT hY hS h0
  rw [List.length_map]
  rw [List.length_map] at hT
  show Calls Try.prog 44 #[.func (.yield l) #[] #[], .pointer (some ⟨T, 0, none⟩)] W _
  obtain ⟨n, hn⟩ : ∃ n, n = cs.length := ⟨_, rfl⟩
  have HY' := Lib.hid (fun (i : Nat) (o : Nat × Bool) (hi : i < s) (h : cs[i]? = some o) => hY i (q1 o) hi (by rw [List.getElem?_map, h]; rfl))
  have HS' := Lib.hid (fun (o : Nat × Bool) (h : cs[s]? = some o) => hS (q1 o) (by rw [List.getElem?_map, h]; rfl))
  have HJ := Lib.hid (fun i (A C : World) (h1 : J i A) (h2 : W.heap.size ≤ A.heap.size) (h3 : Below A.heap.size A C) => hJ i A C h1 h2 h3)
  have HK := Lib.hid hK
  have HT := Lib.hid (fun i A (hi : i < n) (hh : J i A) (hs : W.heap.size ≤ A.heap.size) => hT i A A (by omega) hh hs rfl)
  have H0 := Lib.hid h0
  have hk0 := hK 0 W h0
  obtain ⟨a, cap, rfl⟩ := qo_form hk0.2
  have t0 : W.cell? ⟨T, 0, none⟩ = some (.slice a cs.length cap) := hk0.1.cell 0
  rw [← hn] at t0 hl ⊢
  have HQ : Hid (∀ W', QvK T (.slice a cs.length cap) cs W' → W'.ownsRow 0 70 2 (.slice a n cap) n (qc cs)) := fun W' h => by rw [hn]; exact h.2
  have HN := Lib.hid hn
  clear hY hJ hK hT hS h0 hk0 hJ' hJx hn
  refine callsIn_wide (n := 9).1 ?_
  refine callsIn_of_wp Try.func44 rfl trivial ?_ rfl
  simp only [Try.ntmps44, List.size_toArray, List.length_cons, List.length_nil, Nat.reduceAdd, Nat.reduceSub, Array.replicate_succ, Array.replicate_zero, List.push_toArray, List.append_toArray, List.nil_append, List.cons_append]
  gi_wp2
  gi_loopw [7] (fun s7 wr => ∃ i : Nat, s7 = .int .i64 (i : Int) ∧ i ≤ n ∧ Hid (i ≤ s) ∧ Hid (J i wr) ∧ Hid (W.heap.size ≤ wr.heap.size)) (fun s7 _ => n - (intOf s7).toNat)
  case atStart => exact ⟨0, rfl, Nat.zero_le _, Nat.zero_le _, H0, Nat.le_refl W.heap.size⟩
  case round =>
    obtain ⟨i, rfl, hin, KI, KJ, KS⟩ := hrel
    by_cases hlt : i < n
    · have hk := HQ.out wr (HK.out i wr KJ.out)
      obtain ⟨g, rfl, hcap, hcl, hcs⟩ := qc_cells hk (by omega)
      obtain ⟨⟨q, b⟩, hc⟩ : ∃ c, cs[i]? = some c := ⟨cs[i]'(by omega), List.getElem?_eq_getElem _⟩
      obtain ⟨u0, u1⟩ := hcs i _ hc
      dsimp only at u0 u1
      have b1 := below1 wr (.cells #[.int .i64 (q : Int), .bool b] 70)
      have hz1 : W.heap.size ≤ (wr.alloc (.cells #[.int .i64 (q : Int), .bool b] 70)).heap.size := Nat.le_trans KS.out b1.size
      have KA := Lib.hid (HT.out i _ hlt (HJ.out i wr _ KJ.out KS.out b1) hz1)
      by_cases his : i < s
      · have CY := Lib.hid (HY'.out i (q, b) his hc)
        unfold q1 at CY
        obtain ⟨fn, tmps, assign, body, hy, hR⟩ := CY.out _ KA.out hz1
        have HZ := Lib.hid hz1
        have HI : Hid (i + 1 ≤ s) := his
        clear hk hcs hc b1 hz1 KJ KA CY hcl his
        gi_wp2
        refine (roundIn_wide hR).mono ?_
        rintro e W3 ⟨rfl, hu3, hj3⟩
        have KJ3 := Lib.hid hj3
        have KS3 := Lib.hid (Nat.le_trans HZ.out hu3)
        clear hu3 hj3 hy hR HZ KS u0 u1
        gi_wp2_with fail
        go_roundw
        case rel => exact ⟨i + 1, by first | rfl | simp, by omega, HI, KJ3, KS3⟩
        case measure => simp [intOf]; omega
      · obtain rfl : i = s := by have := KI.out; omega
        have CY := Lib.hid (HS'.out (q, b) hc)
        unfold q1 at CY
        obtain ⟨fn, tmps, assign, body, hy, hR⟩ := CY.out _ KA.out hz1
        have HL := Lib.hid hlt
        clear hk hcs hc b1 hz1 KJ KA CY hcl his KI
        gi_wp2
        refine (roundIn_wide hR).mono ?_
        rintro e W3 ⟨rfl, hu3, hj3⟩
        have KJ3 := Lib.hid hj3
        clear hu3 hj3 hy hR KS u0 u1
        gi_wp2_with fail
        refine bodyPost_ret (results_none rfl _ _ _) rfl ?_
        exact ⟨⟨_, rfl⟩, Or.inr ⟨HL.out, KJ3.out⟩⟩
    · obtain rfl : i = n := by omega
      gi_wp2_with fail
      go_end0
      exact ⟨⟨_, rfl⟩, Or.inl ⟨KI.out, KJ.out⟩⟩

set_option maxHeartbeats 1000000 in
theorem values_any (v : Value) (a : Option Addr) (n cap : Nat) (hv : v = .slice a n cap) (w : World) :
    Calls Try.prog 41 #[v] w fun e w' => e = .returned (.func (.func 44) #[] #[.pointer (some ⟨w.heap.size, 0, none⟩)]) ∧ w' = w.alloc (.cells #[v] 63) := by
  subst hv
  go_enter Try.func41, Try.ntmps41
  go_wp2
  go_ret
  exact ⟨rfl, rfl⟩

set_option maxHeartbeats 1000000 in
theorem all_any (w : World) (c : Nat) (O : Nat → Prop) (s : Qk.St) (hv rv : Value) (h : LckV w c O s hv rv) :
    Calls Try.prog 34 #[.pointer (some ⟨c, 2, none⟩)] w fun e w' => e = .returned (.func (.func 44) #[] #[.pointer (some ⟨w.heap.size, 0, none⟩)]) ∧ w' = w.alloc (.cells #[rv] 63) := by
  obtain ⟨a, cap, rfl⟩ := qo_form h.r
  obtain ⟨-, -, c2, -⟩ := h.cells
  have HI := Lib.hid (values_any (.slice a s.row.length cap) a _ cap rfl w)
  clear h
  go_enter Try.func34, Try.ntmps34
  go_wp2_with fail
  refine HI.out.mono ?_
  rintro e w' ⟨rfl, rfl⟩
  go_wp2
  go_ret
  exact ⟨rfl, rfl⟩
end Go.Proofs.Ytoipmdemicdhoaa
