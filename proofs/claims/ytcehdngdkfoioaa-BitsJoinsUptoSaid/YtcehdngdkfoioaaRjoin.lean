/- Contracts of the document's Align and Join. -/
import Derived.Test.YtcehdngdkfoioaaJoin
import Derived.Deep.LoopGhost
namespace Go.Proofs.Ytcehdngdkfoioaa
open Go.RowKit

theorem hdrew {w : World} {b : Nat} {o : Obj} (h : Has w b o) : Has w.drew b o := h

theorem row_later {w w' : World} {base : Nat} {s : Value} {l : List Bool} (h : Row w base s l) (hb : Below w.heap.size w w') : Row w' base s l :=
  World.ownsRow.kept h (row := none) ⟨hb.os, hb.tape, hb.output, hb.size, fun k hk _ => hb.block k hk⟩ (by cases s.ownBlock <;> simp)

set_option maxHeartbeats 1000000 in
theorem ralign_bad (s : Value) (bs : List Nat) (N : Int) (w : World) (hs : Sl w s bs) (hN : N ≤ 9223372036854775807) (hr : ¬ (0 ≤ N ∧ Bs.right bs N.toNat)) :
    Calls Try.prog 27 #[.agg #[s, .int .i64 N]] w (NoRow w 2) := by
  have HS := Lib.hid hs
  have HR := Lib.hid hr
  clear hs hr
  obtain ⟨a, len, cap, rfl, hl⟩ := HS.out.shape
  clear hl
  go_enter Try.func27, Try.ntmps27
  go_wp2_with fail
  refine (rright_bad _ bs N _ (HS.out.later (below2 _ _ _)) hN HR.out).mono ?_
  rintro e w1 ⟨rfl, hb1⟩
  obtain ⟨k1, k2, kb, ks⟩ := facts2 hb1
  clear hb1
  obtain ⟨c0, c1, f0, f1⟩ := k2.two
  go_wp2
  exact bodyPost_ret (v := .tuple #[.agg #[.slice none 0 0, .int .i64 0], .int .i64 2]) (by simp [results, Try.results27, go_sem, c0, c1]) rfl ⟨rfl, set2_below kb _ (by omega) _ _⟩

set_option maxHeartbeats 2000000 in
theorem ralign_ok (s : Value) (l : List Bool) (w : World) (hs : Sl w s (Bs.pack l)) (N : Nat) (hl : Hid (N = l.length)) (hN : N ≤ 1125899906841900) :
    Calls Try.prog 27 #[.agg #[s, .int .i64 (N : Int)]] w (RowOwn w (more l (fun _ => false) (8 * ((N + 7) / 8) - N))) := by
  have HS := Lib.hid hs
  obtain ⟨k, hk⟩ : ∃ k, k = 8 * ((N + 7) / 8) - N := ⟨_, rfl⟩
  rw [← hk]
  have HK := Lib.hid hk
  have hk7 : k ≤ 7 := by omega
  clear hs hk
  obtain ⟨a, len, cap, rfl, hl'⟩ := HS.out.shape
  clear hl'
  go_enter Try.func27, Try.ntmps27
  go_wp2_with fail
  refine (rright_ok _ (Bs.pack l) N _ (HS.out.later (below2 _ _ _)) (by omega) (by rw [hl.out]; exact Bs.pack_right l)).mono ?_
  rintro e w1 ⟨rfl, hb1⟩
  obtain ⟨k1, k2, kb, ks⟩ := facts2 hb1
  clear hb1
  obtain ⟨c0, c1, f0, f1⟩ := k1.two
  go_wp2_with fail
  refine (copy_is a len cap l N w1 (HS.out.later kb) hl (by omega)).mono ?_
  rintro e w3 ⟨a3, n3, cap3, rfl, hr3, hb3⟩
  have k1' := Lib.hid (k1.later hb3)
  have k2' := Lib.hid (k2.later hb3)
  have kb' := Lib.hid (kb.trans (hb3.mono (by omega)))
  have hsz := hb3.size
  have R3 := Lib.hid (hr3.weaken (show w.heap.size + 2 ≤ w1.heap.size by omega))
  clear hr3 hb3 k1 k2 kb c0 c1 f0 f1
  have HV0 : Hid (Has (w3.alloc (.cells #[.slice a3 n3 cap3, .int .i64 (N : Int)] 24)) w3.heap.size (rowVar a3 n3 cap3 (N : Int))) := Has.new _ _
  have HR0 : Hid (Row (w3.alloc (.cells #[.slice a3 n3 cap3, .int .i64 (N : Int)] 24)) (w.heap.size + 2) (.slice a3 n3 cap3) (more l (fun _ => false) 0)) := by
    show Row _ _ _ _
    rw [more_zero]
    exact World.ownsRow.alloc R3.out _
  have HB0 : Hid (Below (w.heap.size + 2) w3 (w3.alloc (.cells #[.slice a3 n3 cap3, .int .i64 (N : Int)] 24))) := (Below.refl _ _).alloc (by omega) _
  go_wp2_with fail
  go_loopg [] k (fun gk wr => ∃ (i M : Nat) (a : Option Addr) (m cap : Nat), gk + i = k ∧ M ≤ N + 7 ∧ Hid (M = N + i) ∧ Hid (Has wr w3.heap.size (rowVar a m cap (M : Int))) ∧ Hid (Row wr (w.heap.size + 2) (.slice a m cap) (more l (fun _ => false) i)) ∧ Hid (Below (w.heap.size + 2) w3 wr))
  case atStart => exact ⟨0, N, a3, n3, cap3, rfl, by omega, rfl, HV0, HR0, HB0⟩
  case round =>
    obtain ⟨i, M, a, m, cap, hi, hM2, hM, HV, HR, HB⟩ := hrel
    obtain ⟨c0, c1, f0, f1⟩ := HV.out.two
    by_cases hlt : i < k
    · have hne : ((M : Int) % 8 != 0) = true := by rw [bne_iff_ne]; have := hM.out; have := HK.out; omega
      have HM : Hid (M = (more l (fun _ => false) i).length) := by show _ = _; rw [more_length, ← hl.out]; exact hM.out
      have hszr := HV.out.lt
      go_wp2_with fail
      refine (with_is a m cap (more l (fun _ => false) i) false _ (w.heap.size + 2) M _ HR.out (by omega) HM (by omega) rfl).mono ?_
      rintro e w4 ⟨a', m', cap', rfl, hr4, hg4⟩
      have vs := var_step (M + 1) HV.out HR.out hr4 hg4
      have HB4 := Lib.hid (row_grown_below HR.out hg4 HB.out (Nat.le_refl _) (by omega))
      have vv := vs.1.two
      clear c0 c1 f0 f1
      obtain ⟨d0, d1, d2, d3⟩ := vv
      have VS := Lib.hid vs
      clear vs hr4 hg4
      go_wp2
      go_roundg (gk - 1)
      case measure => omega
      case rel =>
        refine ⟨i + 1, M + 1, a', m', cap', by omega, by have := hM.out; omega, ?_, VS.out.2.1, ?_, ?_⟩
        · show _ = _
          have := hM.out
          omega
        · rw [more_succ]
          exact VS.out.2.2
        · exact set2_below HB4.out _ (by omega) _ _
    · obtain rfl : i = k := by omega
      have heq : ((M : Int) % 8 != 0) = false := by rw [bne_eq_false_iff_eq]; have := hM.out; have := HK.out; omega
      have k1 := (k1'.out.below HB.out (by omega))
      have k2 := (k2'.out.below HB.out (by omega))
      obtain ⟨e0, e1, g0, g1⟩ := k2.two
      have K2 := Lib.hid k2
      clear k1 k2
      go_wp2
      refine bodyPost_ret (v := .tuple #[.agg #[.slice a m cap, .int .i64 (M : Int)], .int .i64 0]) (by simp [results, Try.results27, go_sem, e0, e1]) rfl ⟨a, m, cap, ?_, ?_, ?_⟩
      · rw [more_length, ← hl.out, hM.out]
      · have hne := HR.out.ne K2.out
        exact Row.weaken (ownsRow_setCell_other (ownsRow_setCell_other HR.out hne _) hne _) (by omega)
      · exact set2_below (kb'.out.trans (HB.out.mono (by omega))) _ (by omega) _ _

set_option maxHeartbeats 1000000 in
theorem rjoin_bad (s t : Value) (bs cs : List Nat) (N M : Int) (w : World) (hs : Sl w s bs) (ht : Sl w t cs) (hN : N ≤ 9223372036854775807) (hM : M ≤ 9223372036854775807) (hr : ¬ ((0 ≤ N ∧ Bs.right bs N.toNat) ∧ (0 ≤ M ∧ Bs.right cs M.toNat))) :
    Calls Try.prog 25 #[.agg #[s, .int .i64 N], .agg #[t, .int .i64 M]] w (NoRow w 2) := by
  have HS := Lib.hid hs
  have HT := Lib.hid ht
  have HR := Lib.hid hr
  clear hs ht hr
  obtain ⟨a, len, cap, rfl, hl⟩ := HS.out.shape
  obtain ⟨a2, len2, cap2, rfl, hl2⟩ := HT.out.shape
  clear hl hl2
  by_cases h1 : 0 ≤ N ∧ Bs.right bs N.toNat
  · have h2 : ¬ (0 ≤ M ∧ Bs.right cs M.toNat) := fun h => HR.out ⟨h1, h⟩
    obtain ⟨N', hN'⟩ := Int.eq_ofNat_of_zero_le h1.1
    subst hN'
    have H1 := Lib.hid h1
    have H2 := Lib.hid h2
    clear h1 h2
    go_enter Try.func25, Try.ntmps25
    go_wp2_with fail
    refine (rright_ok _ bs N' _ (HS.out.later (below3 _ _ _ _)) (by omega) H1.out.2).mono ?_
    rintro e w1 ⟨rfl, hb1⟩
    obtain ⟨k1, k2, k3, kb, ks⟩ := facts3 hb1
    clear hb1
    obtain ⟨c0, c1, f0, f1⟩ := k2.two
    go_wp2_with fail
    refine (rright_bad _ cs M _ (HT.out.later kb) hM H2.out).mono ?_
    rintro e w2 ⟨rfl, hb2⟩
    have k4 := k3.later hb2
    have kb4 := kb.trans (hb2.mono (by omega))
    clear k1 k2 k3 kb hb2 c0 c1 f0 f1
    obtain ⟨c0, c1, f0, f1⟩ := k4.two
    go_wp2
    exact bodyPost_ret (v := .tuple #[.agg #[.slice none 0 0, .int .i64 0], .int .i64 2]) (by simp [results, Try.results25, go_sem, c0, c1]) rfl ⟨rfl, set2_below kb4 _ (by omega) _ _⟩
  · have H1 := Lib.hid h1
    clear h1
    go_enter Try.func25, Try.ntmps25
    go_wp2_with fail
    refine (rright_bad _ bs N _ (HS.out.later (below3 _ _ _ _)) hN H1.out).mono ?_
    rintro e w1 ⟨rfl, hb1⟩
    obtain ⟨k1, k2, k3, kb, ks⟩ := facts3 hb1
    clear hb1
    obtain ⟨c0, c1, f0, f1⟩ := k3.two
    go_wp2
    exact bodyPost_ret (v := .tuple #[.agg #[.slice none 0 0, .int .i64 0], .int .i64 2]) (by simp [results, Try.results25, go_sem, c0, c1]) rfl ⟨rfl, set2_below kb _ (by omega) _ _⟩

theorem more_bit (l m : List Bool) (i : Nat) : more l (fun i => m[i]?.getD false) (i + 1) = more l (fun i => m[i]?.getD false) i ++ [m[i]?.getD false] := more_succ _ _ _

set_option maxHeartbeats 4000000 in
theorem rjoin_ok (s t : Value) (l m : List Bool) (w : World) (hs : Sl w s (Bs.pack l)) (ht : Sl w t (Bs.pack m)) (N K : Nat) (hl : Hid (N = l.length)) (hm : Hid (K = m.length)) (hN : N + K ≤ 1125899906841900) :
    Calls Try.prog 25 #[.agg #[s, .int .i64 (N : Int)], .agg #[t, .int .i64 (K : Int)]] w (RowOwn w (l ++ m)) := by
  have HS := Lib.hid hs
  have HT := Lib.hid ht
  obtain ⟨L, hL⟩ : ∃ L, L = l ++ m := ⟨_, rfl⟩
  rw [← hL]
  have HLL := Lib.hid hL
  clear hs ht hL
  obtain ⟨a, len, cap, rfl, hl'⟩ := HS.out.shape
  obtain ⟨a2, len2, cap2, rfl, hl2'⟩ := HT.out.shape
  clear hl' hl2'
  go_enter Try.func25, Try.ntmps25
  go_wp2_with fail
  refine (rright_ok _ (Bs.pack l) N _ (HS.out.later (below3 _ _ _ _)) (by omega) (by rw [hl.out]; exact Bs.pack_right l)).mono ?_
  rintro e w1 ⟨rfl, hb1⟩
  obtain ⟨k1, k2, k3, kb, ks⟩ := facts3 hb1
  clear hb1
  obtain ⟨c0, c1, f0, f1⟩ := k2.two
  go_wp2_with fail
  refine (rright_ok _ (Bs.pack m) K _ (HT.out.later kb) (by omega) (by rw [hm.out]; exact Bs.pack_right m)).mono ?_
  rintro e w2 ⟨rfl, hb2⟩
  have q1 := k1.later hb2
  have q2 := Lib.hid (k2.later hb2)
  have q3 := Lib.hid (k3.later hb2)
  have qb := Lib.hid (kb.trans (hb2.mono (by omega)))
  have qs := hb2.size
  clear k1 k2 k3 kb hb2 c0 c1 f0 f1
  obtain ⟨c0, c1, f0, f1⟩ := q1.two
  have Q1 := Lib.hid q1
  clear q1
  go_wp2_with fail
  refine (copy_is a len cap l N w2 (HS.out.later qb.out) hl (by omega)).mono ?_
  rintro e w3 ⟨a3, n3, cap3, rfl, hr3, hb3⟩
  have K2 := Lib.hid (q2.out.later hb3)
  have K3 := Lib.hid (q3.out.later hb3)
  have KB := Lib.hid (qb.out.trans (hb3.mono (by omega)))
  have hsz := hb3.size
  have R3 := Lib.hid (hr3.weaken (show w.heap.size + 3 ≤ w2.heap.size by omega))
  clear hr3 hb3 c0 c1 f0 f1
  have HV0 : Hid (Has (w3.alloc (.cells #[.slice a3 n3 cap3, .int .i64 (N : Int)] 24)) w3.heap.size (rowVar a3 n3 cap3 (N : Int))) := Has.new _ _
  have HR0 : Hid (Row (w3.alloc (.cells #[.slice a3 n3 cap3, .int .i64 (N : Int)] 24)) (w.heap.size + 3) (.slice a3 n3 cap3) (more l (fun i => m[i]?.getD false) 0)) := by
    show Row _ _ _ _
    rw [more_zero]
    exact World.ownsRow.alloc R3.out _
  have HB0 : Hid (Below (w.heap.size + 3) w3 (w3.alloc (.cells #[.slice a3 n3 cap3, .int .i64 (N : Int)] 24))) := (Below.refl _ _).alloc (by omega) _
  go_wp2_with fail
  go_loopw [7] (fun s7 wr => ∃ (i M : Nat) (a : Option Addr) (p cap : Nat), i ≤ K ∧ s7 = .int .i64 i ∧ M ≤ N + K ∧ Hid (M = N + i) ∧ Hid (Has wr w3.heap.size (rowVar a p cap (M : Int))) ∧ Hid (Row wr (w.heap.size + 3) (.slice a p cap) (more l (fun i => m[i]?.getD false) i)) ∧ Hid (Below (w.heap.size + 3) w3 wr)) (fun s _ => K - (intOf s).toNat)
  case atStart => exact ⟨0, N, a3, n3, cap3, Nat.zero_le _, rfl, by omega, rfl, HV0, HR0, HB0⟩
  case round =>
    obtain ⟨i, M, a, p, cap, hi, rfl, hM2, hM, HV, HR, HB⟩ := hrel
    obtain ⟨c0, c1, f0, f1⟩ := HV.out.two
    have hk2 := K2.out.below HB.out (by omega)
    obtain ⟨d0, d1, g0, g1⟩ := hk2.two
    have KK := Lib.hid hk2
    clear hk2
    by_cases hlt : i < K
    · obtain ⟨b, hb⟩ : ∃ b, b = m[i]?.getD false := ⟨_, rfl⟩
      have HBIT := Lib.hid hb
      have HM : Hid (M = (more l (fun i => m[i]?.getD false) i).length) := by show _ = _; rw [more_length, ← hl.out]; exact hM.out
      have hszr := HV.out.lt
      have hlm : i < m.length := by rw [← hm.out]; exact hlt
      have HLM := Lib.hid hlm
      have HML : Hid (m.length ≤ 2251799813685248) := by show _ ≤ _; rw [← hm.out]; omega
      have ST : Hid (Sl wr.drew (.slice a2 len2 cap2) (Bs.pack m)) := HT.out.later ((KB.out.trans (HB.out.mono (by omega))).drew)
      have HVd := Lib.hid (hdrew HV.out)
      have HRd : Hid (Row wr.drew (w.heap.size + 3) (.slice a p cap) (more l (fun i => m[i]?.getD false) i)) := World.ownsRow.drew HR.out
      have HBd : Hid (Below (w.heap.size + 3) w3 wr.drew) := HB.out.drew
      clear hb hlm
      have hz3 : w3.heap.size < wr.heap.size := hszr
      have hz1 : w.heap.size + 1 < wr.heap.size := by omega
      have hnn : ¬ w.heap.size + 1 = w3.heap.size := by omega
      have hnm : ¬ w3.heap.size = w.heap.size + 1 := by omega
      go_wp2_with fail
      go_region_with (first | (go_at_call 38; refine (rbit_is _ m _ i K b _ ST.out rfl HBIT HLM.out HML.out).mono ?_; rintro e w4 ⟨rfl, b4⟩; have HV4 := Lib.hid (HVd.out.later b4); have HK4 := Lib.hid ((hdrew KK.out).later b4); have HR4 := Lib.hid (row_later HRd.out b4); have z44 := HV4.out.two; have z40 := z44.1; have z41 := z44.2.1; clear z44; have HB4 := Lib.hid (HBd.out.trans (b4.mono (by show w.heap.size + 3 ≤ wr.heap.size; omega))); clear b4) | (go_at_call 35; refine (with_is a p cap (more l (fun i => m[i]?.getD false) i) b _ (w.heap.size + 3) M _ HR4.out (by have := HV4.out.lt; omega) HM (by omega) rfl).mono ?_; rintro e w5 ⟨a', p', cap', rfl, hr5, hg5⟩; have vs := var_step (M + 1) HV4.out HR4.out hr5 hg5; have HB5 := Lib.hid (row_grown_below HR4.out hg5 HB4.out (Nat.le_refl _) (by have := HV4.out.lt; omega)); have HK5 := Lib.hid (HK4.out.grown hg5 (fun e => HR4.out.ne HK4.out e.symm)); have HV5 := Lib.hid vs.1; have VS := Lib.hid vs; have vv := vs.1.two; have x0 := vv.1; have x1 := vv.2.1; have x2 := vv.2.2.1; have x3 := vv.2.2.2; have ww := HK5.out.two; have y0 := ww.1; have y1 := ww.2.1; clear vs vv ww hr5 hg5))
      all_goals
        go_wp2
        refine ⟨⟨i + 1, M + 1, a', p', cap', by omega, by go_num, by have := hM.out; omega, ?_, VS.out.2.1, ?_, ?_⟩, ?_⟩
        · show _ = _
          have := hM.out
          omega
        · rw [more_bit, ← HBIT.out]
          exact VS.out.2.2
        · exact set2_below HB5.out _ (by omega) _ _
        · simp [intOf]; omega
    · obtain rfl : i = K := by omega
      have k3 := (K3.out.below HB.out (by omega))
      obtain ⟨e0, e1, g0', g1'⟩ := k3.two
      have K3' := Lib.hid k3
      clear k3
      go_wp2
      refine bodyPost_ret (v := .tuple #[.agg #[.slice a p cap, .int .i64 (M : Int)], .int .i64 0]) (by simp [results, Try.results25, go_sem, e0, e1]) rfl ⟨a, p, cap, ?_, ?_, ?_⟩
      · rw [HLL.out, List.length_append, ← hl.out, ← hm.out, hM.out]
      · have hne := HR.out.ne K3'.out
        have hR := HR.out
        rw [hm.out, more_all, ← HLL.out] at hR
        exact Row.weaken (ownsRow_setCell_other (ownsRow_setCell_other hR hne _) hne _) (by omega)
      · exact set2_below (KB.out.trans (HB.out.mono (by omega))) _ (by omega) _ _

theorem align_pair (bs : List Nat) (n : Int) (h8 : ∀ x ∈ bs, x < 256) (hl : bs.length ≤ 1048576) (hn : n ≤ 9223372036854775807) :
    ∃ (bs' : List Nat) (n' c : Int), (∀ (s : Value) (w : World), Sl w s bs → Calls Try.prog 26 #[.agg #[s, .int .i64 n]] w (Rows1 w bs' n' c)) ∧
      (∀ (s : Value) (w : World), Sl w s bs → Calls Try.prog 27 #[.agg #[s, .int .i64 n]] w (Rows0 w bs' n' c)) := by
  by_cases hr : 0 ≤ n ∧ Bs.right bs n.toNat
  · have hroom := right_room hr
    obtain ⟨l, rfl, rfl⟩ := right_bits hr h8
    have hlen : (more l (fun _ => false) (8 * ((l.length + 7) / 8) - l.length)).length ≤ 2251799813685248 := by rw [more_length]; omega
    exact ⟨_, _, 0, fun s w hs => (align_ok s l l.length w hs rfl (by omega)).mono fun e w' h => h.rows1 hlen, fun s w hs => (ralign_ok s l w hs l.length rfl (by omega)).mono fun e w' h => h.rows0 hlen⟩
  · exact ⟨[], 0, 2, fun s w hs => (align_bad s bs n w hs hn hr).mono fun e w' h => h.rows1, fun s w hs => (ralign_bad s bs n w hs hn hr).mono fun e w' h => h.rows0⟩

theorem join_pair (bs cs : List Nat) (n k : Int) (h8 : ∀ x ∈ bs, x < 256) (h9 : ∀ x ∈ cs, x < 256) (hl : bs.length ≤ 1048576) (hl2 : cs.length ≤ 1048576) (hn : n ≤ 9223372036854775807) (hk : k ≤ 9223372036854775807) :
    ∃ (bs' : List Nat) (n' c : Int), (∀ (s t : Value) (w : World), Sl w s bs → Sl w t cs → Calls Try.prog 24 #[.agg #[s, .int .i64 n], .agg #[t, .int .i64 k]] w (Rows1 w bs' n' c)) ∧
      (∀ (s t : Value) (w : World), Sl w s bs → Sl w t cs → Calls Try.prog 25 #[.agg #[s, .int .i64 n], .agg #[t, .int .i64 k]] w (Rows0 w bs' n' c)) := by
  by_cases hr : (0 ≤ n ∧ Bs.right bs n.toNat) ∧ (0 ≤ k ∧ Bs.right cs k.toNat)
  · have hroom := right_room hr.1
    have hroom2 := right_room hr.2
    obtain ⟨l, rfl, rfl⟩ := right_bits hr.1 h8
    obtain ⟨m, rfl, rfl⟩ := right_bits hr.2 h9
    have hlen : (l ++ m).length ≤ 2251799813685248 := by rw [List.length_append]; omega
    exact ⟨_, _, 0, fun s t w hs ht => (join_ok s t l m l.length m.length w hs ht rfl rfl (by omega) (by omega)).mono fun e w' h => h.rows1 hlen, fun s t w hs ht => (rjoin_ok s t l m w hs ht l.length m.length rfl rfl (by omega)).mono fun e w' h => h.rows0 hlen⟩
  · exact ⟨[], 0, 2, fun s t w hs ht => (join_bad s t bs cs n k w hs ht hn hk hr).mono fun e w' h => h.rows1, fun s t w hs ht => (rjoin_bad s t bs cs n k w hs ht hn hk hr).mono fun e w' h => h.rows0⟩

end Go.Proofs.Ytcehdngdkfoioaa
