/- The statement BitsWide: a number of many bits is its low ones, and then its high ones. It holds for every row and every three integers, without a condition. -/
import Derived.Test.YtcehdngdkfoioaaPairs
import Derived.Test.YtcehdngdkfoioaaArg
import Derived.Deep.RegionHeld3
namespace Go.Proofs.Ytcehdngdkfoioaa
open Go.ChangeShapes Go.WideShapes Go.ChangeAt Go.RowKit

/-- What Put answers, by cases. -/
theorem put_cases (bs : List Nat) (n v k : Int) (h8 : ∀ x ∈ bs, x < 256) (hn : n ≤ 9223372036854775807) :
    (∀ (s : Value) (w : World), Sl w s bs → Calls Try.prog 12 #[.agg #[s, .int .i64 n], .int .i64 v, .int .i64 k] w (NoRow w 2)) ∨
      ∃ (l : List Bool) (v' k' : Nat), Bs.pack l = bs ∧ n = (l.length : Int) ∧ v = (v' : Int) ∧ k = (k' : Int) ∧ k' ≤ 32 ∧ v' < 2 ^ k' ∧ l.length ≤ 8 * bs.length := by
  by_cases hr : 0 ≤ n ∧ Bs.right bs n.toNat
  · have hroom := right_room hr
    obtain ⟨l, hp, hnl⟩ := right_bits hr h8
    have hR : Bs.right bs l.length := by rw [← hp]; exact Bs.pack_right l
    subst hnl
    rcases fit_cases v k 32 with ⟨v', k', rfl, rfl, hk, hv⟩ | hf
    · exact Or.inr ⟨l, v', k', hp, rfl, rfl, rfl, by omega, hv, by omega⟩
    · exact Or.inl fun s w hs => put_fit s bs l.length v k w hs (by omega) hR hf
  · exact Or.inl fun s w hs => put_check s bs n v k w hs hn hr

theorem bits_split (v n low : Nat) (h : low ≤ n) : Bs.bitsOf (v % 2 ^ low) low ++ Bs.bitsOf (v / 2 ^ low) (n - low) = Bs.bitsOf v n := by
  apply List.ext_getElem?
  intro i
  have g : ∀ (x k j : Nat), (Bs.bitsOf x k)[j]? = if j < k then some (x.testBit j) else none := by
    intro x k j
    by_cases hj : j < k
    · simp [Bs.bitsOf, hj]
    · rw [if_neg hj, List.getElem?_eq_none (by rw [Bs.bitsOf_length]; omega)]
  by_cases h1 : i < low
  · rw [List.getElem?_append_left (by rw [Bs.bitsOf_length]; exact h1), g, g, if_pos h1, if_pos (by omega), Nat.testBit_mod_two_pow]
    simp [h1]
  · rw [List.getElem?_append_right (by rw [Bs.bitsOf_length]; omega), Bs.bitsOf_length, g, g]
    by_cases h2 : i < n
    · rw [if_pos (by omega), if_pos h2, Nat.testBit_div_two_pow]
      have e : i - low + low = i := by omega
      rw [e]
    · rw [if_neg (by omega), if_neg h2]

/-- Put, in the words of a row's bits. -/
theorem put_row (s : Value) (l l' : List Bool) (q1 q2 M : Int) (v n N : Nat) (w : World) (hs : Sl w s (Bs.pack l)) (h1 : Hid (q1 = (v : Int))) (h2 : Hid (q2 = (n : Int))) (hn : n ≤ 32) (hv : Hid (v < 2 ^ n)) (hl : Hid (N = l.length)) (hN : N ≤ 1125899906842624) (hl' : Hid (l' = l ++ Bs.bitsOf v n)) (hM : Hid (M = (l'.length : Int))) :
    Calls Try.prog 12 #[.agg #[s, .int .i64 (N : Int)], .int .i64 q1, .int .i64 q2] w fun e w' =>
      ∃ g m : Nat, e = .returned (.tuple #[.agg #[.slice (some ⟨g, 0, none⟩) m m, .int .i64 M], .int .i64 0]) ∧ Hid (m = (l'.length + 7) / 8) ∧ w.heap.size ≤ g ∧ Has w' g (bytesObj (Bs.pack l')) ∧ Below w.heap.size w w' := by
  rw [h1.out, h2.out, hM.out, hl'.out]
  exact put_ok s l v n w hs (by show _ ≤ _; rw [← hl.out]; exact hN) hn hv N hl

set_option maxHeartbeats 4000000 in
theorem wide_no (s : Value) (bs : List Nat) (N v k low : Int) (w : World) (hs : Sl w s bs)
    (hP : Hid (∀ (s : Value) (w : World), Sl w s bs → Calls Try.prog 12 #[.agg #[s, .int .i64 N], .int .i64 v, .int .i64 k] w (NoRow w 2))) :
    Calls Try.prog 10 #[.agg #[s, .int .i64 N], .int .i64 v, .int .i64 k, .int .i64 low] w fun e w' => e = .returned (.bool true) ∧ Below w.heap.size w w' := by
  have HS := Lib.hid hs
  obtain ⟨a, len, cap, rfl, hlen⟩ := hs.shape
  clear hs hlen
  go_enter Try.func10, Try.ntmps10
  go_wp2_with fail
  refine (hP.out _ _ (HS.out.later (below1 _ _))).mono ?_
  rintro e w1 ⟨rfl, b1⟩
  obtain ⟨k1, kb, ks⟩ := facts1 b1
  have KB := Lib.hid kb
  clear b1 k1 kb
  go_wp2_with fail
  refine (lives_any _).mono ?_
  rintro e w2 ⟨rfl, b2⟩
  have B2 := Lib.hid ((KB.out.trans ((below1 w1 _).mono KB.out.size)).trans (b2.mono (by have := KB.out.size; simp; omega)))
  clear b2
  go_wp2
  go_ret
  exact ⟨rfl, B2.out⟩

set_option maxHeartbeats 4000000 in
theorem wide_out (s : Value) (l : List Bool) (v n : Nat) (low : Int) (w : World) (hs : Sl w s (Bs.pack l)) (hn : n ≤ 32) (hv : Hid (v < 2 ^ n)) (hN : l.length ≤ 1125899906842624) (hlow : low < 0 ∨ (n : Int) < low) (N : Nat) (hl : Hid (N = l.length)) :
    Calls Try.prog 10 #[.agg #[s, .int .i64 (N : Int)], .int .i64 (v : Int), .int .i64 (n : Int), .int .i64 low] w fun e w' => e = .returned (.bool true) ∧ Below w.heap.size w w' := by
  have HS := Lib.hid hs
  obtain ⟨a, len, cap, rfl, hlen⟩ := hs.shape
  have HLO := Lib.hid hlow
  have hN' : N ≤ 1125899906842624 := by have := hl.out; omega
  clear hs hlen hlow
  go_enter Try.func10, Try.ntmps10
  go_wp2_with fail
  refine (put_is _ l (l ++ Bs.bitsOf v n) v n N (N + n) _ (HS.out.later (below1 _ _)) hn hv hl hN' rfl rfl).mono ?_
  rintro e w1 ⟨a1, m1, cap1, rfl, s1, b1⟩
  obtain ⟨k1, kb, ks⟩ := facts1 b1
  have KB := Lib.hid kb
  clear b1 k1 kb s1
  by_cases h0 : low < 0
  · have h0' : decide (low < 0) = true := by simpa using h0
    go_wp2_with fail
    refine (lives_any _).mono ?_
    rintro e w2 ⟨rfl, b2⟩
    have B2 := Lib.hid ((KB.out.trans ((below1 w1 _).mono KB.out.size)).trans (b2.mono (by have := KB.out.size; simp; omega)))
    clear b2
    go_wp2
    go_ret
    exact ⟨rfl, B2.out⟩
  · have h0' : decide (low < 0) = false := by simpa using h0
    have h1 : (n : Int) < low := by rcases HLO.out with h | h <;> first | exact h | exact absurd h h0
    have h1' : decide ((n : Int) < low) = true := by simpa using h1
    go_wp2_with fail
    refine (lives_any _).mono ?_
    rintro e w2 ⟨rfl, b2⟩
    have B2 := Lib.hid ((KB.out.trans ((below1 w1 _).mono KB.out.size)).trans (b2.mono (by have := KB.out.size; simp; omega)))
    clear b2
    go_wp2
    go_ret
    exact ⟨rfl, B2.out⟩

theorem hasDrew {w : World} {b : Nat} {o : Obj} (h : Has w b o) : Has w.drew b o := h

theorem below_undrew {w w5 : World} (h : Below w.drew.heap.size w.drew w5) : Below w.heap.size w w5 := ⟨h.os, h.tape, h.output, h.size, h.block⟩

/-- A new variable that holds a row. -/
def NewVar (W wx : World) (s : Value) (l : List Bool) (N : Int) : Prop :=
  ∃ p a m cap, s = .pointer (some ⟨p, 0, none⟩) ∧ Has wx p (rowVar a m cap N) ∧ Sl wx (.slice a m cap) (Bs.pack l) ∧ Below W.heap.size W wx

theorem NewVar.first {W w5 : World} {g m b : Nat} {l : List Bool} {N : Int} (hb : Below W.heap.size W w5) (hh : Has w5 g (bytesObj (Bs.pack l))) (hm : m = (l.length + 7) / 8) (hl : l.length ≤ 2251799813685248) (hbb : b = w5.heap.size) :
    NewVar W (w5.alloc (.cells #[.slice (some ⟨g, 0, none⟩) m m, .int .i64 N] 24)) (.pointer (some ⟨b, 0, none⟩)) l N := by
  subst hbb
  refine ⟨_, some ⟨g, 0, none⟩, m, m, rfl, Has.new w5 _, ?_, hb.alloc hb.size _⟩
  exact Sl.later (Sl.has hh (Bs.pack_lt _) (by rw [Bs.pack_length]; omega) m m (by rw [Bs.pack_length]; exact hm)) (below1 _ _)

theorem NewVar.second {W w5 : World} {g m b : Nat} {l : List Bool} {N : Int} {z : Obj} (hb : Below (W.alloc z).heap.size (W.alloc z) w5) (hz : z = .cells #[.slice none 0 0, .int .i64 0] 24) (hg : (W.alloc z).heap.size ≤ g) (hh : Has w5 g (bytesObj (Bs.pack l))) (hm : m = (l.length + 7) / 8) (hl : l.length ≤ 2251799813685248) (hbb : b = W.heap.size) :
    NewVar W ((w5.setCell ⟨b, 0, none⟩ (.slice (some ⟨g, 0, none⟩) m m)).setCell ⟨b, 1, none⟩ (.int .i64 N)) (.pointer (some ⟨b, 0, none⟩)) l N := by
  subst hbb
  subst hz
  have hg' : W.heap.size + 1 ≤ g := by simpa using hg
  have h1 : Has w5 W.heap.size (.cells #[.slice none 0 0, .int .i64 0] 24) := (Has.new W _).later hb
  have h2 := (h1.setSelf (i := 0) (.slice (some ⟨g, 0, none⟩) m m)).setSelf (i := 1) (.int .i64 N)
  have hh2 : Has ((w5.setCell ⟨W.heap.size, 0, none⟩ (.slice (some ⟨g, 0, none⟩) m m)).setCell ⟨W.heap.size, 1, none⟩ (.int .i64 N)) g (bytesObj (Bs.pack l)) :=
    (hh.set (by show g ≠ W.heap.size; omega) _).set (by show g ≠ W.heap.size; omega) _
  refine ⟨_, some ⟨g, 0, none⟩, m, m, rfl, by simpa using h2, ?_, ?_⟩
  · exact Sl.has hh2 (Bs.pack_lt _) (by rw [Bs.pack_length]; omega) m m (by rw [Bs.pack_length]; exact hm)
  · exact set2_below ((below1 W _).trans (hb.mono (by simp))) _ (Nat.le_refl _) _ _

theorem mask_low (v low : Nat) (hv : v < 2 ^ 32) (hl : low ≤ 32) : bits BinOp.and IntKind.i64 (v : Int) (IntKind.i64.wrap (IntKind.i64.wrap (2 ^ low) - 1)) = ((v % 2 ^ low : Nat) : Int) := by
  have h2 : 2 ^ low ≤ 2 ^ 32 := Nat.pow_le_pow_right (by omega) hl
  have hp := Nat.two_pow_pos low
  have e : ((2 : Int) ^ low) = ((2 ^ low : Nat) : Int) := by simp
  rw [e, IntWalk.i64_in ((2 ^ low : Nat) : Int) (by omega), IntWalk.i64_in _ (by omega), ← e]
  rw [bits_mask .i64 62 (by decide) (fun n h0 h1 => by rw [IntKind.wrap_i64]; omega) low (by omega) (v : Int) (by omega) (by omega), e]
  omega

set_option maxHeartbeats 8000000 in
theorem wide_in (s : Value) (l : List Bool) (v n low : Nat) (w : World) (hs : Sl w s (Bs.pack l)) (hn : n ≤ 32) (hv : Hid (v < 2 ^ n)) (hN : l.length ≤ 1125899906842000) (hlow : low ≤ n) (N : Nat) (hl : Hid (N = l.length)) :
    Calls Try.prog 10 #[.agg #[s, .int .i64 (N : Int)], .int .i64 (v : Int), .int .i64 (n : Int), .int .i64 (low : Int)] w fun e w' => e = .returned (.bool true) ∧ Below w.heap.size w w' := by
  have HS := Lib.hid hs
  obtain ⟨a, len, cap, rfl, hlen⟩ := hs.shape
  have hN' : N ≤ 1125899906842000 := by have := hl.out; omega
  have hv32 : v < 2 ^ 32 := Nat.lt_of_lt_of_le hv.out (Nat.pow_le_pow_right (by omega) hn)
  have HV32 := Lib.hid hv32
  have HM1 : Hid (v % 2 ^ low < 2 ^ low) := Nat.mod_lt _ (Nat.two_pow_pos low)
  have HM2 : Hid (v / 2 ^ low < 2 ^ (n - low)) := by
    show _ < _
    rw [Nat.div_lt_iff_lt_mul (Nat.two_pow_pos low), ← Nat.pow_add]
    have e : n - low + low = n := by omega
    rw [e]
    exact hv.out
  have L1 : Hid ((l ++ Bs.bitsOf (v % 2 ^ low) low).length ≤ 2251799813685248) := by show _ ≤ _; rw [List.length_append, Bs.bitsOf_length]; omega
  have L2 : Hid ((l ++ Bs.bitsOf v n).length ≤ 2251799813685248) := by show _ ≤ _; rw [List.length_append, Bs.bitsOf_length]; omega
  have E2 : Hid (l ++ Bs.bitsOf v n = (l ++ Bs.bitsOf (v % 2 ^ low) low) ++ Bs.bitsOf (v / 2 ^ low) (n - low)) := by
    show _ = _
    rw [List.append_assoc, bits_split v n low hlow]
  obtain ⟨N2, hN2⟩ : ∃ N2, N2 = N + low := ⟨_, rfl⟩
  have Hl2 : Hid (N2 = (l ++ Bs.bitsOf (v % 2 ^ low) low).length) := by show _ = _; rw [List.length_append, Bs.bitsOf_length, ← hl.out, hN2]
  have hN2' : N2 ≤ 1125899906842100 := by omega
  have HN2 := Lib.hid hN2
  clear hN2
  clear hs hlen hv32
  have h0' : decide ((low : Int) < 0) = false := by simp
  have h1' : decide (n < low) = false := by simp; omega
  go_enter Try.func10, Try.ntmps10
  go_wp2_with fail
  refine (put_is _ l (l ++ Bs.bitsOf v n) v n N (N + n) _ (HS.out.later (below1 _ _)) hn hv hl (by omega) rfl rfl).mono ?_
  rintro e w1 ⟨a1, m1, cap1, rfl, s1, b1⟩
  obtain ⟨k1, kb, ks⟩ := facts1 b1
  obtain ⟨M, hM⟩ : ∃ M : Int, M = ((N + n : Nat) : Int) := ⟨_, rfl⟩
  rw [← hM]
  have HMM := Lib.hid hM
  clear hM
  have XA := Lib.hid (Has.new w1 (.cells #[.slice a1 m1 cap1, .int .i64 M] 24))
  have SX := Lib.hid (s1.later (below1 w1 (.cells #[.slice a1 m1 cap1, .int .i64 M] 24)))
  have KA := Lib.hid (k1.alloc (.cells #[.slice a1 m1 cap1, .int .i64 M] 24))
  have BA := Lib.hid (kb.trans ((below1 w1 (.cells #[.slice a1 m1 cap1, .int .i64 M] 24)).mono kb.size))
  clear b1 k1 kb s1
  obtain ⟨wa, hwa⟩ : ∃ wa, wa = w1.alloc (.cells #[.slice a1 m1 cap1, .int .i64 M] 24) := ⟨_, rfl⟩
  rw [← hwa] at XA SX KA BA
  have SA := Lib.hid (HS.out.later BA.out)
  go_upto_region 4 with fail
  rw [← hwa]
  clear hwa
  obtain ⟨c0, c1, _, _⟩ := KA.out.two
  have Bd : Hid (Below wa.heap.size wa wa.drew) := (Below.refl _ _).drew
  have Be : Hid (Below wa.heap.size wa (wa.alloc (.cells #[.slice none 0 0, .int .i64 0] 24)).drew) := ((Below.refl _ _).alloc (Nat.le_refl _) _).drew
  go_cut [11, 12] (fun s11 s12 wx => s12 = .int .i64 0 ∧ NewVar wa wx s11 (l ++ Bs.bitsOf (v % 2 ^ low) low) (N2 : Int))
  case first =>
    have hz := KA.out.lt
    have hze : ¬ w.heap.size = wa.heap.size := by omega
    have hze2 : ¬ wa.heap.size = w.heap.size := by omega
    have HN3 : Hid ((N2 : Int) = ((l ++ Bs.bitsOf (v % 2 ^ low) low).length : Int)) := by show _ = _; rw [← Hl2.out]
    go_region_held3 (fun wx => wx.cell? ⟨w.heap.size, 0, none⟩ = some (.slice a len cap) ∧ wx.cell? ⟨w.heap.size, 1, none⟩ = some (.int .i64 (N : Int))) (first | exact ⟨(KA.out.later B5.out).two.1, (KA.out.later B5.out).two.2.1⟩ | go_keep)
      (first | (go_at_call 12; refine (put_row _ l (l ++ Bs.bitsOf (v % 2 ^ low) low) _ _ (N2 : Int) (v % 2 ^ low) low N _ (by first | exact SA.out.later Bd.out | exact SA.out.later Be.out) (by show _ = _; exact mask_low v low HV32.out (by omega)) rfl (by omega) HM1 hl (by omega) rfl HN3).mono ?_; rintro e w5 ⟨g5, m5, rfl, hm5, hg5, hh5, hb5⟩; have B5 : Hid (Below wa.heap.size wa w5) := (by first | exact Bd.out.trans hb5 | exact Be.out.trans (hb5.mono (by show wa.heap.size ≤ (wa.alloc _).heap.size; simp))); (try (have zc := ((hasDrew (Has.new wa (.cells #[.slice none 0 0, .int .i64 0] 24))).later hb5).two; have z0 := zc.1; have z1 := zc.2.1; have z2 := zc.2.2.1; have z3 := zc.2.2.2; clear zc)); have Q5 := Lib.hid (And.intro hm5 (And.intro hg5 (And.intro hh5 hb5))); have hz5 := Nat.lt_of_lt_of_le KA.out.lt B5.out.size; have cc := (KA.out.later B5.out).two; have e0 := cc.1; have e1 := cc.2.1; clear cc hm5 hg5 hh5 hb5))
    all_goals (go_wp2_with fail; go_meet; first | exact ⟨rfl, NewVar.first B5.out Q5.out.2.2.1 Q5.out.1.out L1.out rfl⟩ | exact ⟨rfl, NewVar.second (below_undrew Q5.out.2.2.2) rfl Q5.out.2.1 Q5.out.2.2.1 Q5.out.1.out L1.out rfl⟩)
  case rest =>
    clear c0 c1 Bd Be
    obtain ⟨rfl, p, ay, my, capy, rfl, ky, sy, by'⟩ := hcut
    have KY := Lib.hid ky
    have SY := Lib.hid sy
    have BY := Lib.hid by'
    have XA2 := Lib.hid (XA.out.later by')
    have SX2 := Lib.hid (SX.out.later by')
    have BA2 := Lib.hid (BA.out.trans (by'.mono BA.out.size))
    clear ky sy by' KA XA SX BA SA
    go_upto_region 5 with fail
    obtain ⟨c0, c1, _, _⟩ := KY.out.two
    have Bd : Hid (Below wc.heap.size wc wc.drew) := (Below.refl _ _).drew
    have Be : Hid (Below wc.heap.size wc (wc.alloc (.cells #[.slice none 0 0, .int .i64 0] 24)).drew) := ((Below.refl _ _).alloc (Nat.le_refl _) _).drew
    go_cut [13, 14] (fun s13 s14 wx => s14 = .int .i64 0 ∧ NewVar wc wx s13 (l ++ Bs.bitsOf v n) M)
    case first =>
      have hz := KY.out.lt
      have hze : ¬ p = wc.heap.size := by omega
      have hze2 : ¬ wc.heap.size = p := by omega
      have HN4 : Hid (M = ((l ++ Bs.bitsOf v n).length : Int)) := by
        show _ = _
        rw [HMM.out, List.length_append, Bs.bitsOf_length, ← hl.out]
      have HQ2 : Hid ((n : Int) - (low : Int) = ((n - low : Nat) : Int)) := by show _ = _; omega
      have HQ1 : Hid ((v : Int) / 2 ^ low = ((v / 2 ^ low : Nat) : Int)) := by show _ = _; simp
      have hwr : IntKind.i64.wrap ((n : Int) - (low : Int)) = (n : Int) - (low : Int) := IntWalk.i64_in _ (by omega)
      go_region_held3 (fun wx => wx.cell? ⟨p, 0, none⟩ = some (.slice ay my capy) ∧ wx.cell? ⟨p, 1, none⟩ = some (.int .i64 (N2 : Int))) (first | exact ⟨(KY.out.later B5.out).two.1, (KY.out.later B5.out).two.2.1⟩ | go_keep)
        (first | (go_at_call 12; refine (put_row _ (l ++ Bs.bitsOf (v % 2 ^ low) low) (l ++ Bs.bitsOf v n) _ _ M (v / 2 ^ low) (n - low) N2 _ (by first | exact SY.out.later Bd.out | exact SY.out.later Be.out) HQ1 HQ2 (by omega) HM2 Hl2 (by omega) E2 HN4).mono ?_; rintro e w5 ⟨g5, m5, rfl, hm5, hg5, hh5, hb5⟩; have B5 : Hid (Below wc.heap.size wc w5) := (by first | exact Bd.out.trans hb5 | exact Be.out.trans (hb5.mono (by show wc.heap.size ≤ (wc.alloc _).heap.size; simp))); (try (have zc := ((hasDrew (Has.new wc (.cells #[.slice none 0 0, .int .i64 0] 24))).later hb5).two; have z0 := zc.1; have z1 := zc.2.1; have z2 := zc.2.2.1; have z3 := zc.2.2.2; clear zc)); have Q5 := Lib.hid (And.intro hm5 (And.intro hg5 (And.intro hh5 hb5))); have hz5 := Nat.lt_of_lt_of_le KY.out.lt B5.out.size; have cc := (KY.out.later B5.out).two; have e0 := cc.1; have e1 := cc.2.1; clear cc hm5 hg5 hh5 hb5))
      all_goals (go_wp2_with fail; go_meet; first | exact ⟨rfl, NewVar.first B5.out Q5.out.2.2.1 Q5.out.1.out L2.out rfl⟩ | exact ⟨rfl, NewVar.second (below_undrew Q5.out.2.2.2) rfl Q5.out.2.1 Q5.out.2.2.1 Q5.out.1.out L2.out rfl⟩)
    case rest =>
      obtain ⟨rfl, q, az, mz, capz, rfl, kz, sz, bz⟩ := hcut
      have XA3 := Lib.hid (XA2.out.later bz)
      have SX3 := Lib.hid (SX2.out.later bz)
      have BA3 := Lib.hid (BA2.out.trans (bz.mono BA2.out.size))
      have SZ := Lib.hid sz
      clear c0 c1 Bd Be
      obtain ⟨c0, c1, _, _⟩ := XA3.out.two
      obtain ⟨d0, d1, _, _⟩ := kz.two
      clear kz sz bz XA2 SX2 BA2 KY SY BY
      go_wp2_with fail
      refine (same_is _ _ M M _ _ SX3.out SZ.out rfl).mono ?_
      rintro e w7 ⟨rfl, b7⟩
      have B7 := Lib.hid (BA3.out.trans (b7.mono BA3.out.size))
      clear b7 c0 c1 d0 d1
      go_wp2_with fail
      refine (lives_any _).mono ?_
      rintro e w8 ⟨rfl, b8⟩
      have B8 := Lib.hid (B7.out.trans (b8.mono B7.out.size))
      clear b8
      go_wp2
      go_ret
      exact ⟨rfl, B8.out⟩

theorem bitsWide_walk (s : Value) (bs : List Nat) (N v k low : Int) (w : World) (hs : Sl w s bs) (hl : bs.length ≤ 140737488351232) (_ : -9223372036854775808 ≤ N) (hN : N ≤ 9223372036854775807) (_ : -9223372036854775808 ≤ v) (_ : v ≤ 9223372036854775807) (_ : -9223372036854775808 ≤ k) (_ : k ≤ 9223372036854775807) (_ : -9223372036854775808 ≤ low) (_ : low ≤ 9223372036854775807) :
    Calls Try.prog 10 #[.agg #[s, .int .i64 N], .int .i64 v, .int .i64 k, .int .i64 low] w fun e w' => e = .returned (.bool true) ∧ Below w.heap.size w w' := by
  rcases put_cases bs N v k hs.facts.1 hN with h | ⟨l, v', k', rfl, rfl, rfl, rfl, hk, hv, hroom⟩
  · exact wide_no s bs N v k low w hs h
  · by_cases h : low < 0 ∨ (k' : Int) < low
    · exact wide_out s l v' k' low w hs hk hv (by omega) h l.length rfl
    · obtain ⟨low', rfl⟩ := Int.eq_ofNat_of_zero_le (show 0 ≤ low by omega)
      exact wide_in s l v' k' low' w hs hk hv (by omega) (by omega) l.length rfl

set_option maxRecDepth 100000 in
theorem bitsWide_lifted (os : Os) (started : os.Started) (H : Type) (enc : TypeId × Value → H) :
    ReturnsInHanded {} Try.checked os 10 .any (Rows.bitsWideSpec.pre6 enc Try.prog Try.f10 Rows.bitsWideRow.domain false) (Rows.bitsWideSpec.post enc Try.prog Try.f10 false true false false) := by
  refine returnsInHanded_of_change_sized (C := Try.checked) Try.own started (by kernel_rfl) Try.func10
    (ChangeSpec.witness6 (enc := enc) (C := Try.checked) false ⟨#[], #[.agg #[.slice none 0 0, .int .i64 0], .int .i64 0, .int .i64 0, .int .i64 0], []⟩ 8 (by kernel_rfl) (by kernel_rfl) (by kernel_rfl) (by kernel_rfl)) ?_
  intro W base args ds gs before hval0 hW _ hsz0 _
  have hval : ∀ (j : Nat) t v, Try.f10.params[j]? = some t → args[j]? = some v → Value.okWide Try.prog W .any base t v := hval0
  have hsz : (DataW.weightsEach Try.prog (Try.f10.params.toList ++ Rows.bitsWideSpec.plain.varTypes Try.prog) (ds ++ gs)).all (· ≤ reachBytes) = true := hsz0
  have hW' := hW
  obtain ⟨p, q, hA0, hV, rfl, hfz, hnd⟩ := hW
  have hA : DataW.TrodAll enc Try.prog W 0 (fun _ => true) true Try.f10.params.toList args.toList ds p := hA0
  rw [Try.params10] at hA hval hsz
  obtain ⟨v0, vs0, d0, ds0, p0, q0, hargs, rfl, rfl, h0, r0⟩ := trodAll_cons hA
  obtain ⟨v1, vs1, d1, ds1, p1, q1, rfl, rfl, rfl, h1, r1⟩ := trodAll_cons r0
  obtain ⟨v2, vs2, d2, ds2, p2, q2, rfl, rfl, rfl, h2, r2⟩ := trodAll_cons r1
  obtain ⟨v3, vs3, d3, ds3, p3, q3, rfl, rfl, rfl, h3, r3⟩ := trodAll_cons r2
  obtain ⟨rfl, rfl, rfl⟩ := trodAll_nil r3
  obtain rfl : args = #[v0, v1, v2, v3] := by cases args; simp_all
  obtain ⟨rfl, rfl⟩ := trodVars_none hV
  have k0 := h0
  have lt0 : ∀ x ∈ p0, x.block < W.heap.size := by obtain ⟨m, hm⟩ := k0; exact DataW.trod_lt m _ _ _ hm
  have w0 : ∀ n ∈ d0.weights Try.prog 24, n ≤ reachBytes := fun n hn => by simpa using List.all_eq_true.1 hsz n (DataW.weights_mem_each (j := 0) rfl rfl n hn)
  obtain ⟨s0, bs0, n0, rfl, sl0, ln0, lo0, hi0⟩ := bits_open (hval 0 24 v0 rfl rfl) h0 w0
  have k1 := h1
  have lt1 : ∀ x ∈ p1, x.block < W.heap.size := by obtain ⟨m, hm⟩ := k1; exact DataW.trod_lt m _ _ _ hm
  obtain ⟨n1, ev1, _, _, wn1⟩ := open_int Try.underlying3 (hval 1 3 v1 rfl rfl) h1
  subst ev1
  obtain ⟨lo1, hi1⟩ := wf_bounds wn1
  have k2 := h2
  have lt2 : ∀ x ∈ p2, x.block < W.heap.size := by obtain ⟨m, hm⟩ := k2; exact DataW.trod_lt m _ _ _ hm
  obtain ⟨n2, ev2, _, _, wn2⟩ := open_int Try.underlying3 (hval 2 3 v2 rfl rfl) h2
  subst ev2
  obtain ⟨lo2, hi2⟩ := wf_bounds wn2
  have k3 := h3
  have lt3 : ∀ x ∈ p3, x.block < W.heap.size := by obtain ⟨m, hm⟩ := k3; exact DataW.trod_lt m _ _ _ hm
  obtain ⟨n3, ev3, _, _, wn3⟩ := open_int Try.underlying3 (hval 3 3 v3 rfl rfl) h3
  subst ev3
  obtain ⟨lo3, hi3⟩ := wf_bounds wn3
  clear hA0 hval0 hsz0
  refine (bitsWide_walk s0 bs0 n0 n1 n2 n3 W sl0 ln0 lo0 hi0 lo1 hi1 lo2 hi2 lo3 hi3).mono fun e W' ⟨he, bel⟩ => ?_
  subst he
  exact ⟨_, rfl, _, _, _, [], _, [], hW', trodAll_mk1 (shut_bool Try.underlying4 _), (trodAll_cons_mk (Below.trod Try.laidOut (by kernel_rfl) (of_decide_eq_true (by kernel_rfl)) k0 bel lt0) (trodAll_cons_mk (Below.trod Try.laidOut (by kernel_rfl) (of_decide_eq_true (by kernel_rfl)) k1 bel lt1) (trodAll_cons_mk (Below.trod Try.laidOut (by kernel_rfl) (of_decide_eq_true (by kernel_rfl)) k2 bel lt2) (trodAll_cons_mk (Below.trod Try.laidOut (by kernel_rfl) (of_decide_eq_true (by kernel_rfl)) k3 bel lt3) trodAll_mk0)))), rfl, bel.frame _, fun h => by cases h⟩

theorem bitsWide_proved : Rows.BitsWideSaid :=
  OpenClaim.holds_of_wide 10 Try.f10 rfl rfl rfl rfl rfl rfl rfl ⟨rfl, rfl, rfl, rfl, rfl⟩ rfl rfl rfl rfl rfl (by kernel_rfl) Try.func10 (by kernel_rfl)
    (of_decide_eq_true (by kernel_rfl)) (by unfold Func.isWrapper; rw [if_neg (of_decide_eq_false (by kernel_rfl))]; exact ⟨rfl, rfl⟩)
    (fun os started H enc _ => bitsWide_lifted os started H enc)
end Go.Proofs.Ytcehdngdkfoioaa
