/- Contract of the document's Put. -/
import Derived.Test.YtcehdngdkfoioaaCopy
namespace Go.Proofs.Ytcehdngdkfoioaa
open Go.RowKit

theorem Row.shape {w : World} {base : Nat} {s : Value} {l : List Bool} (h : Row w base s l) : ∃ a n cap, s = .slice a n cap := by
  rcases h.2 with ⟨rfl, _⟩ | ⟨g, cap, cur, rfl, _⟩
  · exact ⟨_, _, _, rfl⟩
  · exact ⟨_, _, _, rfl⟩

theorem Row.weaken {w : World} {base base' : Nat} {s : Value} {l : List Bool} (h : Row w base s l) (hb : base' ≤ base) : Row w base' s l := own_weaken h hb

/-- A row's block is not that of a variable of a row's type. -/
theorem Row.ne {w : World} {base b : Nat} {s : Value} {l : List Bool} {cs : Array Value} {fr : Nat × Nat} (h : Row w base s l) (hb : Has w b (.cells cs 24 fr)) : s.ownBlock ≠ some b := own_ne h hb

/-- The value of a variable that holds a row. -/
abbrev rowVar (a : Option Addr) (n cap : Nat) (N : Int) : Obj := .cells #[.slice a n cap, .int .i64 N] 24 (0, 0)

theorem with_is (a : Option Addr) (n cap : Nat) (l : List Bool) (b : Bool) (q : Int) (base N : Nat) (w : World) (hr : Row w base (.slice a n cap) l) (hb : base ≤ w.heap.size) (hl : Hid (N = l.length)) (hN : N ≤ 1125899906842000) (hq : Hid (q = (b.toNat : Int))) :
    Calls Try.prog 35 #[.agg #[.slice a n cap, .int .i64 (N : Int)], .int .i64 q] w fun e w' =>
      ∃ a' n' cap', e = .returned (.agg #[.slice a' n' cap', .int .i64 ((N : Int) + 1)]) ∧ Row w' base (.slice a' n' cap') (l ++ [b]) ∧ w.grownBy w' (Value.slice a n cap).ownBlock := by
  rw [hq.out]
  refine (with_any _ l b base N w hr hb hl hN).mono ?_
  rintro e w' ⟨s', rfl, h1, h2⟩
  obtain ⟨a', n', cap', rfl⟩ := h1.shape
  refine ⟨a', n', cap', ?_, h1, h2⟩
  rw [List.length_append, List.length_singleton, ← hl.out]
  rfl

theorem copy_is (a : Option Addr) (n cap : Nat) (l : List Bool) (N : Nat) (w : World) (hs : Sl w (.slice a n cap) (Bs.pack l)) (hl : Hid (N = l.length)) (hN : N ≤ 1125899906842000) :
    Calls Try.prog 34 #[.agg #[.slice a n cap, .int .i64 (N : Int)]] w fun e w' =>
      ∃ a' n' cap', e = .returned (.agg #[.slice a' n' cap', .int .i64 (N : Int)]) ∧ Row w' w.heap.size (.slice a' n' cap') l ∧ Below w.heap.size w w' := by
  refine (copy_any _ l N w hs hl hN).mono ?_
  rintro e w' ⟨s', rfl, h1, h2⟩
  obtain ⟨a', n', cap', rfl⟩ := h1.shape
  exact ⟨a', n', cap', by rw [hl.out], h1, h2⟩

/-- A variable's row and the variable itself, behind a step of With that was stored back into it. -/
theorem var_step {w w' : World} {base b : Nat} {a a' : Option Addr} {n n' cap cap' : Nat} {N : Int} {l l' : List Bool} (M : Int)
    (hv : Has w b (rowVar a n cap N)) (hr : Row w base (.slice a n cap) l) (hr' : Row w' base (.slice a' n' cap') l') (hg : w.grownBy w' (Value.slice a n cap).ownBlock) :
    Has w' b (rowVar a n cap N) ∧ Has ((w'.setCell ⟨b, 0, none⟩ (.slice a' n' cap')).setCell ⟨b, 1, none⟩ (.int .i64 M)) b (rowVar a' n' cap' M) ∧
      Row ((w'.setCell ⟨b, 0, none⟩ (.slice a' n' cap')).setCell ⟨b, 1, none⟩ (.int .i64 M)) base (.slice a' n' cap') l' := by
  have h1 : Has w' b (rowVar a n cap N) := hv.grown hg (fun e => hr.ne hv e.symm)
  refine ⟨h1, ?_, ?_⟩
  · have h2 := (h1.setSelf (i := 0) (.slice a' n' cap')).setSelf (i := 1) (.int .i64 M)
    simpa using h2
  · exact ownsRow_setCell_other (ownsRow_setCell_other hr' (hr'.ne h1) _) (hr'.ne h1) _

theorem row_grown_below {w0 w w' : World} {base B : Nat} {s : Value} {l : List Bool} (hr : Row w base s l) (hg : w.grownBy w' s.ownBlock) (hb : Below B w0 w) (hB : B ≤ base) (hs : B ≤ w.heap.size) : Below B w0 w' :=
  hb.grown hg hs fun k hk => Nat.le_trans hB (hr.block k hk).1

set_option maxHeartbeats 1000000 in
theorem rput_right (s : Value) (bs : List Nat) (N v n : Int) (w : World) (hs : Sl w s bs) (hN : N ≤ 9223372036854775807) (hr : ¬ (0 ≤ N ∧ Bs.right bs N.toNat)) :
    Calls Try.prog 13 #[.agg #[s, .int .i64 N], .int .i64 v, .int .i64 n] w (NoRow w 2) := by
  have HS := Lib.hid hs
  have HR := Lib.hid hr
  clear hs hr
  obtain ⟨a, len, cap, rfl, hl⟩ := HS.out.shape
  clear hl
  go_enter Try.func13, Try.ntmps13
  go_wp2_with fail
  refine (rright_bad _ bs N _ (HS.out.later (below2 _ _ _)) hN HR.out).mono ?_
  rintro e w1 ⟨rfl, hb1⟩
  obtain ⟨k1, k2, kb, ks⟩ := facts2 hb1
  clear hb1
  obtain ⟨c0, c1, f0, f1⟩ := k2.two
  go_wp2
  exact bodyPost_ret (v := .tuple #[.agg #[.slice none 0 0, .int .i64 0], .int .i64 2]) (by simp [results, Try.results13, go_sem, c0, c1]) rfl ⟨rfl, set2_below kb _ (by omega) _ _⟩

set_option maxHeartbeats 1000000 in
theorem rput_fit (s : Value) (bs : List Nat) (N : Nat) (v n : Int) (w : World) (hs : Sl w s bs) (hN : N ≤ 9223372036854775807) (hr : Bs.right bs N) (hf : n ≤ 32 → Hid (decide (0 ≤ n ∧ 0 ≤ v ∧ v / 2 ^ n.toNat = 0) = false)) :
    Calls Try.prog 13 #[.agg #[s, .int .i64 N], .int .i64 v, .int .i64 n] w (NoRow w 2) := by
  have HS := Lib.hid hs
  have HR := Lib.hid hr
  have HF : Hid _ := rfit_no v n 32 (fun h => (hf h).out)
  clear hs hr hf
  obtain ⟨a, len, cap, rfl, hl⟩ := HS.out.shape
  clear hl
  go_enter Try.func13, Try.ntmps13
  go_wp2_with fail
  refine (rright_ok _ bs N _ (HS.out.later (below2 _ _ _)) hN HR.out).mono ?_
  rintro e w1 ⟨rfl, hb1⟩
  obtain ⟨k1, k2, kb, ks⟩ := facts2 hb1
  clear hb1
  obtain ⟨c0, c1, f0, f1⟩ := k2.two
  go_wp2_with (go_at_call 33; refine (rfits_is v n 32 false (by omega) HF _).mono ?_; rintro e w2 ⟨rfl, rfl⟩)
  exact bodyPost_ret (v := .tuple #[.agg #[.slice none 0 0, .int .i64 0], .int .i64 2]) (by simp [results, Try.results13, go_sem, c0, c1]) rfl ⟨rfl, set2_below kb _ (by omega) _ _⟩

/-- What is answered where the document makes a row: it lies in memory of its own. -/
def RowOwn (w : World) (l : List Bool) (e : Ending) (w' : World) : Prop :=
  ∃ a n cap, e = .returned (.tuple #[.agg #[.slice a n cap, .int .i64 (l.length : Int)], .int .i64 0]) ∧ Row w' w.heap.size (.slice a n cap) l ∧ Below w.heap.size w w'

set_option maxHeartbeats 2000000 in
theorem rput_ok (s : Value) (l : List Bool) (v n : Nat) (w : World) (hs : Sl w s (Bs.pack l)) (hn : n ≤ 32) (hv : Hid (v < 2 ^ n)) (N : Nat) (hl : Hid (N = l.length)) (hN : N ≤ 1125899906841900) :
    Calls Try.prog 13 #[.agg #[s, .int .i64 (N : Int)], .int .i64 (v : Int), .int .i64 (n : Int)] w (RowOwn w (l ++ Bs.bitsOf v n)) := by
  have HS := Lib.hid hs
  have HF : Hid _ := rfit_nat v n 32 hv.out hn
  clear hs
  obtain ⟨a, len, cap, rfl, hl'⟩ := HS.out.shape
  clear hl'
  go_enter Try.func13, Try.ntmps13
  go_wp2_with fail
  refine (rright_ok _ (Bs.pack l) N _ (HS.out.later (below2 _ _ _)) (by omega) (by rw [hl.out]; exact Bs.pack_right l)).mono ?_
  rintro e w1 ⟨rfl, hb1⟩
  obtain ⟨k1, k2, kb, ks⟩ := facts2 hb1
  clear hb1
  obtain ⟨c0, c1, f0, f1⟩ := k1.two
  go_wp2_with (go_at_call 33; refine (rfits_is (v : Int) (n : Int) 32 true (by omega) HF _).mono ?_; rintro e w2 ⟨rfl, rfl⟩)
  refine (copy_is a len cap l N w1 (HS.out.later kb) hl (by omega)).mono ?_
  rintro e w3 ⟨a3, n3, cap3, rfl, hr3, hb3⟩
  have k1' := Lib.hid (k1.later hb3)
  have k2' := Lib.hid (k2.later hb3)
  have kb' := Lib.hid (kb.trans (hb3.mono (by omega)))
  have hsz := hb3.size
  have R3 := Lib.hid (hr3.weaken (show w.heap.size + 2 ≤ w1.heap.size by omega))
  clear hr3 hb3 k1 k2 kb c0 c1 f0 f1
  have HV0 : Hid (Has (w3.alloc (.cells #[.slice a3 n3 cap3, .int .i64 (N : Int)] 24)) w3.heap.size (rowVar a3 n3 cap3 (N : Int))) := Has.new _ _
  have HR0 : Hid (Row (w3.alloc (.cells #[.slice a3 n3 cap3, .int .i64 (N : Int)] 24)) (w.heap.size + 2) (.slice a3 n3 cap3) (l ++ Bs.bitsOf v 0)) := by
    have e : l ++ Bs.bitsOf v 0 = l := by simp [Bs.bitsOf]
    show Row _ _ _ _
    rw [e]
    exact World.ownsRow.alloc R3.out _
  have HB0 : Hid (Below (w.heap.size + 2) w3 (w3.alloc (.cells #[.slice a3 n3 cap3, .int .i64 (N : Int)] 24))) := (Below.refl _ _).alloc (by omega) _
  go_wp2_with fail
  go_loopw [9] (fun s9 wr => ∃ (i M : Nat) (a : Option Addr) (m cap : Nat), i ≤ n ∧ s9 = .int .i64 i ∧ M ≤ N + 32 ∧ Hid (M = N + i) ∧ Hid (Has wr w3.heap.size (rowVar a m cap (M : Int))) ∧ Hid (Row wr (w.heap.size + 2) (.slice a m cap) (l ++ Bs.bitsOf v i)) ∧ Hid (Below (w.heap.size + 2) w3 wr)) (fun s _ => n - (intOf s).toNat)
  case atStart => exact ⟨0, N, a3, n3, cap3, Nat.zero_le _, rfl, by omega, rfl, HV0, HR0, HB0⟩
  case round =>
    obtain ⟨i, M, a, m, cap, hi, rfl, hM2, hM, HV, HR, HB⟩ := hrel
    obtain ⟨c0, c1, f0, f1⟩ := HV.out.two
    by_cases hlt : i < n
    · have hbit := bit_int v i
      have HM : Hid (M = (l ++ Bs.bitsOf v i).length) := by show _ = _; rw [List.length_append, Bs.bitsOf_length, ← hl.out]; exact hM.out
      have HBIT := Lib.hid hbit
      have hszr := HV.out.lt
      clear hbit
      go_wp2_with fail
      go_region_with (go_at_call 35; refine (with_is a m cap (l ++ Bs.bitsOf v i) (v.testBit i) _ (w.heap.size + 2) M _ (World.ownsRow.drew HR.out) (by show w.heap.size + 2 ≤ wr.heap.size; omega) HM (by omega) (by show _ = _; rw [i64_and1]; exact HBIT.out)).mono ?_; rintro e w4 ⟨a', m', cap', rfl, hr4, hg4⟩; have vs := var_step (M + 1) (show Has wr.drew w3.heap.size (rowVar a m cap (M : Int)) from HV.out) (World.ownsRow.drew HR.out) hr4 hg4; have HB4 := Lib.hid (row_grown_below (World.ownsRow.drew HR.out) hg4 HB.out.drew (Nat.le_refl _) (by show w.heap.size + 2 ≤ wr.heap.size; omega)); have vv := vs.1.two; have d0 := vv.1; have d1 := vv.2.1; have d2 := vv.2.2.1; have d3 := vv.2.2.2; have VS := Lib.hid vs; clear vs vv hr4 hg4)
      all_goals
        go_wp2
        refine ⟨⟨i + 1, M + 1, a', m', cap', by omega, by go_num, by have := hM.out; omega, ?_, VS.out.2.1, ?_, ?_⟩, ?_⟩
        · show _ = _
          have := hM.out
          omega
        · rw [Bs.bitsOf_succ, ← List.append_assoc]
          exact VS.out.2.2
        · exact set2_below HB4.out _ (by omega) _ _
        · simp [intOf]; omega
    · obtain rfl : i = n := by omega
      have k1 := (k1'.out.below HB.out (by omega))
      have k2 := (k2'.out.below HB.out (by omega))
      obtain ⟨e0, e1, g0, g1⟩ := k2.two
      have K2 := Lib.hid k2
      clear k1 k2
      go_wp2
      refine bodyPost_ret (v := .tuple #[.agg #[.slice a m cap, .int .i64 (M : Int)], .int .i64 0]) (by simp [results, Try.results13, go_sem, e0, e1]) rfl ⟨a, m, cap, ?_, ?_, ?_⟩
      · rw [List.length_append, Bs.bitsOf_length, ← hl.out, hM.out]
      · have hne := HR.out.ne K2.out
        exact Row.weaken (ownsRow_setCell_other (ownsRow_setCell_other HR.out hne _) hne _) (by omega)
      · exact set2_below (kb'.out.trans (HB.out.mono (by omega))) _ (by omega) _ _
end Go.Proofs.Ytcehdngdkfoioaa
