/- Locks: Free. -/
import Derived.Test.YtoipmdemicdhoaaQup
import Derived.Test.YtoipmdemicdhoaaAppw
import Derived.Deep.Onto

namespace Go.Proofs.Ytoipmdemicdhoaa
set_option maxRecDepth 100000
open Go.RowKit Go.Shelf Go.Maps

attribute [local go_sem] Oper.semAt_some

/-- What Free leaves. -/
def FreeP (w : World) (b : Nat) (D : Nat → Prop) (s : Qk.Sts) (S : ByteArray) (who : Int) (e : Ending) (w' : World) : Prop :=
  ∃ v D', e = .returned (.tuple #[v, .int .i64 (Qk.freeE (s S) who)]) ∧ w'.ownsRow w.heap.size 3 1 v (Qk.freeN (s S) who).length (qn (Qk.freeN (s S) who)) ∧ Lks w' b D' (Qk.upd s S (Qk.free (s S) who)) ∧ Nxt D w D' w' ∧ ∀ g, v.ownBlock = some g → ¬ D' g

theorem Qk.mid_zero (hs : List Nat) (wr : Bool) (row : List (Nat × Bool)) : Qk.mid hs wr row 0 = ⟨hs, wr, row⟩ := by simp [Qk.mid]
theorem upd_self (s : Qk.Sts) (S : ByteArray) : Qk.upd s S (s S) = s := by
  funext x
  unfold Qk.upd
  split
  · rename_i h; rw [h]
  · rfl
theorem FreeP.err {w w' : World} {b : Nat} {D : Nat → Prop} {s : Qk.Sts} {S : ByteArray} {who : Int} (h : Lks w b D s) (hb : Below w.heap.size w w') (he : Qk.freeE (s S) who ≠ 0) : FreeP w b D s S who (.returned (.tuple #[.slice none 0 0, .int .i64 (Qk.freeE (s S) who)])) w' := by
  refine ⟨_, D, rfl, ?_, ?_, Nxt.below hb, fun g hg => by cases hg⟩
  · unfold Qk.freeN; rw [if_neg he]; exact ⟨rfl, Or.inl ⟨rfl, rfl⟩⟩
  · unfold Qk.free; rw [if_neg he, upd_self]; exact h.later hb

set_option maxRecDepth 100000 in
set_option maxHeartbeats 4000000 in
theorem free_arg (w : World) (b : Nat) (D : Nat → Prop) (s : Qk.Sts) (S : ByteArray) (who : Int) (h : Lks w b D s) (hw : who < 0 ∨ 8 ≤ who) :
    Calls Try.prog 12 #[.pointer (some ⟨b, 0, none⟩), .int .i64 who, .string S] w (FreeP w b D s S who) := by
  have he : Qk.freeE (s S) who = 2 := by unfold Qk.freeE; rw [if_pos hw]
  have HP := Lib.hid (FreeP.err (S := S) (who := who) h (Below.refl _ _) (by rw [he]; decide))
  rw [he] at HP
  obtain ⟨m, n, f, ow, h⟩ := h
  have HC := Lib.hid (check_any w b m who h.has.one.1)
  rw [if_pos hw] at HC
  clear h he hw
  refine callsIn_wide (n := 9).1 ?_
  refine callsIn_of_wp_marks Try.func12 rfl trivial ?_ rfl
  simp only [Try.ntmps12, List.size_toArray, List.length_cons, List.length_nil, Nat.reduceAdd, Nat.reduceSub, Array.replicate_succ, Array.replicate_zero, List.push_toArray, List.append_toArray, List.nil_append, List.cons_append]
  gi_wp2_with fail
  refine ⟨trivial, (callsIn_wide.2 HC.out).mono ?_⟩
  rintro e w' ⟨rfl, rfl⟩
  gi_wp2
  exact ⟨.tuple #[.slice none 0 0, .int .i64 2], by simp [results, Try.results12, go_sem], HP.out⟩

set_option maxRecDepth 100000 in
set_option maxHeartbeats 4000000 in
theorem free_none (w : World) (b : Nat) (D : Nat → Prop) (s : Qk.Sts) (S : ByteArray) (hS : S.size ≤ 1000) (p : Nat) (hp : p < 8) (h : Lks w b D s) (hw : p ∉ (s S).hs) :
    Calls Try.prog 12 #[.pointer (some ⟨b, 0, none⟩), .int .i64 (p : Int), .string S] w (FreeP w b D s S p) := by
  have he : Qk.freeE (s S) p = 9 := by unfold Qk.freeE; rw [if_neg (by omega), if_neg (by simpa using hw)]
  have HP := Lib.hid (fun w' hb => FreeP.err (S := S) (who := (p : Int)) (w' := w') h hb (by rw [he]; decide))
  rw [he] at HP
  obtain ⟨m, n, f, ow, h⟩ := h
  have HC := Lib.hid (check_any w b m p h.has.one.1)
  rw [if_neg (by omega)] at HC
  obtain ⟨kl, hk⟩ := str_key S hS
  obtain ⟨c0, -⟩ := h.has.one
  rcases h.keys S with ⟨hf, hs⟩ | ⟨c, hf, hne, hL⟩
  · have L : (Instr.lookup 49 (.map (some m)) (.string S) false).run Try.prog w = .ok (.pointer none) w :=
      h.map.look_none str_keyed Try.underlying49 (z := .pointer none) rfl false (.string S) hk hf
    have HB := Lib.hid (below1 w (.cells #[.pointer none] 58))
    have t0 := (Has.new w (.cells #[.pointer none] 58)).one.1
    clear h hf hs he hw hk hS
    refine callsIn_wide (n := 9).1 ?_
    refine callsIn_of_wp_marks Try.func12 rfl trivial ?_ rfl
    simp only [Try.ntmps12, List.size_toArray, List.length_cons, List.length_nil, Nat.reduceAdd, Nat.reduceSub, Array.replicate_succ, Array.replicate_zero, List.push_toArray, List.append_toArray, List.nil_append, List.cons_append]
    gi_wp2_with fail
    refine ⟨trivial, (callsIn_wide.2 HC.out).mono ?_⟩
    rintro e w' ⟨rfl, rfl⟩
    gi_wp2
    refine ⟨trivial, ?_⟩
    gi_wp2
    exact ⟨.tuple #[.slice none 0 0, .int .i64 9], by simp [results, Try.results12, go_sem], HP.out _ HB.out⟩
  · have L : (Instr.lookup 49 (.map (some m)) (.string S) false).run Try.prog w = .ok (.pointer (some ⟨c, 0, none⟩)) w :=
      h.map.look_some str_keyed Try.underlying49 false (.string S) hk hf
    have b1 := below1 w (.cells #[.pointer (some ⟨c, 0, none⟩)] 58)
    have HB := Lib.hid b1
    have t0 := (Has.new w (.cells #[.pointer (some ⟨c, 0, none⟩)] 58)).one.1
    have HH := Lib.hid (holds_any (w.alloc (.cells #[.pointer (some ⟨c, 0, none⟩)] 58)) c _ (s S) p (hL.later b1) (by have := (h.good S).le; omega))
    rw [decide_eq_false hw] at HH
    clear h hf he hw hk hS hL hne b1
    refine callsIn_wide (n := 9).1 ?_
    refine callsIn_of_wp_marks Try.func12 rfl trivial ?_ rfl
    simp only [Try.ntmps12, List.size_toArray, List.length_cons, List.length_nil, Nat.reduceAdd, Nat.reduceSub, Array.replicate_succ, Array.replicate_zero, List.push_toArray, List.append_toArray, List.nil_append, List.cons_append]
    gi_wp2_with fail
    refine ⟨trivial, (callsIn_wide.2 HC.out).mono ?_⟩
    rintro e w' ⟨rfl, rfl⟩
    gi_wp2_with fail
    refine ⟨trivial, (callsIn_wide.2 HH.out).mono ?_⟩
    rintro e w2 ⟨rfl, rfl⟩
    gi_wp2
    exact ⟨.tuple #[.slice none 0 0, .int .i64 9], by simp [results, Try.results12, go_sem], HP.out _ HB.out⟩

set_option maxRecDepth 100000 in
set_option maxHeartbeats 16000000 in
theorem free_good (w : World) (b : Nat) (D : Nat → Prop) (s : Qk.Sts) (S : ByteArray) (hS : S.size ≤ 1000) (p : Nat) (hp : p < 8) (h : Lks w b D s) (hw : p ∈ (s S).hs) :
    Calls Try.prog 12 #[.pointer (some ⟨b, 0, none⟩), .int .i64 (p : Int), .string S] w (FreeP w b D s S p) := by
  have he : Qk.freeE (s S) p = 0 := by unfold Qk.freeE; rw [if_neg (by omega), if_pos (by simpa using hw)]
  have hN : Qk.freeN (s S) p = (Qk.out (Qk.left (s S) p) (s S).wr (s S).row).map Prod.fst := by unfold Qk.freeN; rw [if_pos he]; rfl
  have hG := h.good S
  obtain ⟨m, n, f, ow, h⟩ := h
  have HC := Lib.hid (check_any w b m p h.has.one.1)
  rw [if_neg (by omega)] at HC
  obtain ⟨kl, hk⟩ := str_key S hS
  rcases h.keys S with ⟨hf, hs⟩ | ⟨c, hf, hne, hL⟩
  · rw [hs] at hw; cases hw
  have c0 := h.has.one.1
  have L : (Instr.lookup 49 (.map (some m)) (.string S) false).run Try.prog w = .ok (.pointer (some ⟨c, 0, none⟩)) w :=
    h.map.look_some str_keyed Try.underlying49 false (.string S) hk hf
  have b1 := below1 w (.cells #[.pointer (some ⟨c, 0, none⟩)] 58)
  obtain ⟨W1, hW1⟩ : ∃ W, W = w.alloc (.cells #[.pointer (some ⟨c, 0, none⟩)] 58) := ⟨_, rfl⟩
  have hk1 : Has W1 w.heap.size (.cells #[.pointer (some ⟨c, 0, none⟩)] 58 (0, 0)) := by rw [hW1]; exact Has.new w _
  rw [← hW1] at b1
  have t0 := hk1.one.1
  have hL1 := hL.later b1
  have hle := hG.le
  have HH := Lib.hid (holds_any W1 c _ (s S) p hL1 (by omega))
  rw [decide_eq_true hw] at HH
  have HFR := Lib.hid (free_any W1 c _ (s S) p hL1 (by omega) hw)
  have hkn : ¬ (ow w.heap.size = some S) := fun e => by have := h.lt _ (h.dow _ _ e); omega
  have hlen : (Qk.left (s S) p).length + (s S).row.length ≤ 8 := by have := (Qk.left_sub (s S) p).length_le; omega
  have HB1 := Lib.hid b1
  have HK1 := Lib.hid hk1
  have HKN := Lib.hid hkn
  have HN := Lib.hid hN
  have HE := Lib.hid he
  have HLE := Lib.hid hlen
  have HV1 := Lib.hid hW1
  have HLV := Lib.hid h
  have HF := Lib.hid hf
  have HG := Lib.hid hG
  have HKL := Lib.hid hk
  have eg : ∀ args W, (callFunc 38 args).run Try.prog W = .ok (.enter 38 args) W := fun _ _ => rfl
  clear h hf he hw hk hS hL hne b1 hk1 hL1 hle hlen hN hG hkn hW1
  refine callsIn_wide (n := 9).1 ?_
  refine callsIn_of_wp_marks Try.func12 rfl trivial ?_ rfl
  simp only [Try.ntmps12, List.size_toArray, List.length_cons, List.length_nil, Nat.reduceAdd, Nat.reduceSub, Array.replicate_succ, Array.replicate_zero, List.push_toArray, List.append_toArray, List.nil_append, List.cons_append]
  gi_wp2_with fail
  refine ⟨trivial, (callsIn_wide.2 HC.out).mono ?_⟩
  rintro e w' ⟨rfl, rfl⟩
  gi_wp2_with fail
  rw [← HV1.out]
  refine ⟨trivial, (callsIn_wide.2 HH.out).mono ?_⟩
  rintro e W1 ⟨rfl, rfl⟩
  gi_wp2_with fail
  refine ⟨trivial, (callsIn_wide.2 HFR.out).mono ?_⟩
  rintro e W2 ⟨rfl, O2, hL2, hx2⟩
  have hk2 := hx2.has HK1.out HKN.out
  have t2 := hk2.one.1
  have b3 := below1 W2 (.cells #[.slice none 0 0] 32)
  have hk3 := hk2.later b3
  have t3 := hk3.one.1
  have hL3 := hL2.later b3
  have HT3 : Hid (∀ W, W = (W2.alloc (.cells #[.slice none 0 0] 32)).drew → W.cell? ⟨w'.heap.size, 0, none⟩ = some (.pointer (some ⟨c, 0, none⟩))) := fun W hW => by rw [hW]; exact t3
  have HX2 := Lib.hid hx2
  have HL2 := Lib.hid hL2
  have HK2 := Lib.hid hk2
  clear hL2 hx2 hk2 b3 hk3 hL3 t0 t3 c0 L
  gi_wp2
  refine wpIn_wide.2 ?_
  refine region_qtail 5 (by kernel_rfl) (by kernel_rfl) fun W3 hW3 => ?_
  have t3 := HT3.out W3 hW3
  have HW3 := Lib.hid hW3
  clear hW3 HT3
  simp only [List.take_succ_cons, List.take_zero, List.drop_succ_cons, List.drop_zero]
  repeat (go_big_quiet_step (fail))
  refine wpQuiet_nil ?_
  go_wp2_with fail
  refine (leave_any c c W3).mono ?_
  rintro e W4 ⟨rfl, rfl⟩
  have z3 : W3.heap.size = W2.heap.size + 1 := by rw [HW3.out]; simp
  rw [z3]
  obtain ⟨W4, hW4⟩ : ∃ W, W = (W3.alloc (.cells #[.pointer (some ⟨c, 2, none⟩)] 79)).alloc (.cells #[.func (.func 26) #[.pointer (some ⟨c, 0, none⟩)] #[]] 71) := ⟨_, rfl⟩
  rw [← hW4]
  have z4 : W4.heap.size = W2.heap.size + 3 := by rw [hW4]; simp [z3]
  have b23 : Below W2.heap.size W2 W3 := by rw [HW3.out]; exact (below1 W2 _).drew
  have b34 : Below W3.heap.size W3 W4 := by rw [hW4]; exact below2 W3 _ _
  have b24 : Below W2.heap.size W2 W4 := b23.trans (b34.mono (by omega))
  have hO2 : ∀ g, O2 g → g < W2.heap.size := by
    obtain ⟨hv, rv, hV⟩ := HL2.out
    exact hV.lt
  have hx1 : Has W3 W2.heap.size (.cells #[.slice none 0 0] 32 (0, 0)) := by rw [HW3.out]; exact Has.new W2 _
  have hx3 : Has W4 (W2.heap.size + 1) (.cells #[.pointer (some ⟨c, 2, none⟩)] 79 (0, 0)) := by rw [hW4, ← z3]; exact (Has.new W3 _).alloc _
  have hx4 : Has W4 (W2.heap.size + 2) (.cells #[.func (.func 26) #[.pointer (some ⟨c, 0, none⟩)] #[]] 71 (0, 0)) := by
    have := Has.new (W3.alloc (.cells #[.pointer (some ⟨c, 2, none⟩)] 79)) (.cells #[.func (.func 26) #[.pointer (some ⟨c, 0, none⟩)] #[]] 71)
    rw [World.size_alloc, z3] at this
    rw [hW4]; exact this
  have I0 : Hid (∃ O v, FrV W2 O2 c (W2.heap.size + 1) (W2.heap.size + 2) W2.heap.size W4.heap.size (Qk.mid (Qk.left (s S) p) (s S).wr (s S).row 0) (((Qk.out (Qk.left (s S) p) (s S).wr (s S).row).take 0).map Prod.fst) O v W4) :=
    ⟨O2, .slice none 0 0, (by rw [Qk.mid_zero]; exact HL2.out.later b24), Nxt.below b24, hx3, hx4, hx1.later b34, ⟨rfl, Or.inl ⟨rfl, rfl⟩⟩, (fun g hg => by cases hg), (fun hh => by have := hO2 _ hh; omega), (fun hh => by have := hO2 _ hh; omega), (fun hh => by have := hO2 _ hh; omega), (fun hh => by have := hO2 _ hh; omega), (fun hh => by have := hO2 _ hh; omega)⟩
  have HSEQ := Lib.hid (leave_seq (W2.heap.size + 1) (W2.heap.size + 2) c (Qk.left (s S) p) (s S).wr (s S).row (by have := HLE.out; omega))
  have HOL := Lib.hid (Qk.out_len (Qk.left (s S) p) (s S).wr (s S).row)
  have HML := Lib.hid (fun i h => Qk.mid_len (Qk.left (s S) p) (s S).wr (s S).row i h)
  have HMS := Lib.hid (fun i h => Qk.mid_step (Qk.left (s S) p) (s S).wr (s S).row i h)
  have HME := Lib.hid (Qk.mid_end (Qk.left (s S) p) (s S).wr (s S).row)
  have HZ4 := Lib.hid z4
  have HO2 := Lib.hid hO2
  clear hW4 b23 b34 b24 hx1 hx3 hx4 hO2 z3 t3 t2 HW3
  obtain ⟨lf, hlf⟩ : ∃ x, x = Qk.left (s S) p := ⟨_, rfl⟩
  obtain ⟨zw, hzw⟩ : ∃ x, x = (s S).wr := ⟨_, rfl⟩
  obtain ⟨row, hrow⟩ : ∃ x, x = (s S).row := ⟨_, rfl⟩
  rw [← hlf, ← hzw, ← hrow] at I0 HSEQ HOL HML HMS HME HN
  rw [← hlf, ← hrow] at HLE
  have HQ := Lib.hid (And.intro hlf (And.intro hzw hrow))
  clear hlf hzw hrow
  go_wp2_with fail
  gi_wp2_with fail
  refine range_turn (α := Nat × Bool) (a₁ := fun o W0 => { tmps := #[.pointer (some ⟨b, 0, none⟩), .int .i64 (p : Int), .string S, undef, undef, undef, .slice none 0 0, .int .i64 0, .int .i64 0, .pointer (some ⟨w'.heap.size, 0, none⟩), .pointer (some ⟨W2.heap.size, 0, none⟩), .pointer (some ⟨W0.heap.size, 0, none⟩), .pointer (some ⟨b, 0, none⟩), .int .i64 (p : Int), .int .i64 0, .int .i64 0, .bool false, undef, .pointer (some ⟨b, 0, none⟩), .pointer (some ⟨b, 0, none⟩), .pointer (some ⟨b, 0, none⟩), .map (some m), .string S, .pointer (some ⟨c, 0, none⟩), .pointer (some ⟨c, 0, none⟩), .bool false, .bool false, .pointer (some ⟨c, 0, none⟩), .int .i64 (p : Int), .bool true, .bool false, .bool false, .pointer (some ⟨c, 0, none⟩), .int .i64 (p : Int), .tuple #[], .pointer (some ⟨c, 0, none⟩), .pointer (some ⟨c, 0, none⟩), .pointer (some ⟨c, 2, none⟩), .pointer (some ⟨c, 0, none⟩), .func (.func 26) #[.pointer (some ⟨c, 0, none⟩)] #[], .func (.func 38) #[] #[.pointer (some ⟨W2.heap.size + 1, 0, none⟩), .pointer (some ⟨W2.heap.size + 1 + 1, 0, none⟩)], .agg #[.int .i64 (o.1 : Int), .bool o.2], undef, undef, undef, undef, undef, undef, undef, undef, undef, undef, undef, undef, undef, undef, undef, undef, undef, undef, undef, undef], defers := [] }) (asg := fun o W0 => W0.alloc (.cells #[.int .i64 (o.1 : Int), .bool o.2] 70)) (hasg := fun o W0 => below1 W0 _)
    (gf := 38) (first := #[]) (lb := #[.pointer (some ⟨W2.heap.size + 1, 0, none⟩), .pointer (some ⟨W2.heap.size + 2, 0, none⟩)]) (encs := q1) (xs := Qk.out lf zw row) rfl eg HSEQ.out (fun _ => rfl)
    (fun i W => ∃ O v, FrV W2 O2 c (W2.heap.size + 1) (W2.heap.size + 2) W2.heap.size W4.heap.size (Qk.mid lf zw row i) (((Qk.out lf zw row).take i).map Prod.fst) O v W)
    (fun i W => ∃ O v, FrV W2 O2 c (W2.heap.size + 1) (W2.heap.size + 2) W2.heap.size W4.heap.size (Qk.gone lf zw row i) (((Qk.out lf zw row).take i).map Prod.fst) O v W)
    (fun W => False)
    (fun i W ⟨O, v, h⟩ => ⟨h.h1, h.h2, O, h.lk⟩)
    (fun i A C ⟨O, v, h⟩ hl => ⟨O, v, h.lo hl (by omega) (by omega) (by omega) (by omega)⟩)
    (fun i A C ⟨O, v, h⟩ hl => ⟨O, v, h.lo hl (by omega) (by omega) (by omega) (by omega)⟩)
    (fun A C h hl => h)
    (fun i A B _ ⟨O, v, h⟩ hz hT => by
      obtain ⟨h1, h2⟩ := hT O h.lk
      refine ⟨⟨O, v, h.go h1 h2 hz⟩, h2.tch.size, fun k k1 k2 => ?_⟩
      refine h2.tch.block k (by omega) ?_
      rcases Nat.lt_or_ge k (W4.heap.size + 1) with hk | hk
      · obtain rfl : k = W4.heap.size := by omega
        exact h.nb
      · obtain rfl : k = W4.heap.size + 1 := by omega
        exact h.nb')
    I0.out ?assign ?body ?last ?done ?ret
  case assign =>
    intro l o W K hK
    unfold q1
    gi_wp2
    exact hK
  case last =>
    rintro l o W0 W hp
    have := (List.getElem?_eq_some_iff.1 hp).1
    omega
  case ret =>
    rintro W hlt
    omega
  case body =>
    rintro l i o W0 W his hp ⟨O, v, hF0⟩ - hs0 hlo
    have hz4 := HZ4.out
    have hbW := below1 W0 (.cells #[.int .i64 (o.1 : Int), .bool o.2] 70)
    have hol : ∀ g, O g → g < W0.heap.size := by
      obtain ⟨hv, rv, hV⟩ := hF0.lk
      exact hV.lt
    have hF := hF0.lo ((Lo.of_below hbW).trans hlo) (by omega) (by omega) (by omega) (by omega)
    have hsW : W0.heap.size + 1 ≤ W.heap.size := by have := hlo.size; have : (W0.alloc (.cells #[.int .i64 (o.1 : Int), .bool o.2] 70)).heap.size = W0.heap.size + 1 := by simp
                                                    omega
    have hbox : Has W W0.heap.size (.cells #[.int .i64 (o.1 : Int), .bool o.2] 70 (0, 0)) := hlo.has (Has.new W0 _) (Or.inr (by omega))
    have hnbox : ¬ O W0.heap.size := fun hh => by have := hol _ hh; omega
    have hn2 : ¬ O2 w'.heap.size := HX2.out.not (HK1.out.lt) HKN.out
    have hkb := hF.nx.has HK2.out hn2
    obtain ⟨r0, r1, -, -⟩ := hbox.two
    have t0 := hkb.one.1
    obtain ⟨d, r, e1, e2, e3, e4⟩ := HMS.out i his
    rw [hp] at e3
    injection e3 with e3
    subst e3
    have hile : i ≤ row.length := by have := HOL.out; omega
    have hml := HML.out i hile
    have hCH := hold_any W c O (Qk.gone lf zw row i) o.1 o.2 hF.lk (by have := HLE.out; show (Qk.mid lf zw row i).hs.length ≤ 1000; omega)
    have hst : (⟨(Qk.gone lf zw row i).hs ++ [o.1], o.2, (Qk.gone lf zw row i).row⟩ : Qk.St) = Qk.mid lf zw row (i + 1) := by
      rw [e4]; unfold Qk.gone; rw [e1]; rfl
    rw [hst] at hCH
    have HCH := Lib.hid hCH
    have hxl : ((Qk.out lf zw row).take i).length ≤ 8 := by rw [List.length_take]; have := HOL.out; have := HLE.out; omega
    have htk : ((Qk.out lf zw row).take (i + 1)).map Prod.fst = ((Qk.out lf zw row).take i).map Prod.fst ++ [o.1] := by
      rw [List.take_add_one, hp]; simp
    have HTK := Lib.hid htk
    have HXL := Lib.hid hxl
    have HFF := Lib.hid hF
    have HBX := Lib.hid hbox
    have HNB := Lib.hid hnbox
    have HSW := Lib.hid hsW
    have HKB := Lib.hid hkb
    have HNK : Hid (¬ O w'.heap.size) := hF.nx.not HK2.out.lt hn2
    clear hF0 hF hbox hnbox hlo hbW hol hp his e1 e2 e4 hst hml hCH hxl htk hn2 hkb hsW I0 HSEQ HH HFR HC eg hile
    gi_wp2_with fail
    refine ⟨trivial, CallsIn.inRound l ((callsIn_wide.2 HCH.out).mono ?_)⟩
    rintro e W5 ⟨rfl, O5, hL5, hx5⟩
    have hF5 := HFF.out.go hL5 hx5 (by have := HSW.out; omega)
    have hb5 := hx5.has HBX.out HNB.out
    obtain ⟨u0, -, -, -⟩ := hb5.two
    have hv5 := hF5.hb.one.1
    have hbl := below1 W5 (.cells #[.int .i64 (o.1 : Int)] 3)
    obtain ⟨v2, w2, hrun, hown, hg, hw⟩ := qn_app (w := W5.alloc (.cells #[.int .i64 (o.1 : Int)] 3)) (hF5.own.alloc _) o.1 32 W5.heap.size (Has.new W5 _) (by rw [List.length_map]; have := HXL.out; omega) (Nat.le_trans hF5.nx.tch.size hbl.size)
    obtain ⟨hf6, hf7⟩ := hF5.push hbl (by have := HSW.out; have := hx5.tch.size; omega) hown hg hw (Nat.le_refl _) (by omega)
    rw [← HTK.out] at hf6
    have hvX : v.ownBlock ≠ some W2.heap.size := qo_ne hF5.own hF5.hb (by decide)
    obtain ⟨a1, cap1, hvE⟩ := qo_form hF5.own
    have hb2 : Has w2 W2.heap.size (.cells #[v] 32 (0, 0)) := (hg.block _ (by have := hF5.hb.lt; have := hbl.size; omega) (fun e => hvX e.symm)).trans (hF5.hb.later hbl)
    obtain ⟨p0, p1⟩ := hb2.one
    have v1 := (hF5.hb.later hbl).one.1
    have u1 := (hb5.later hbl).two.1
    have HF : Hid (∀ aa : Act, GoPost W4.heap.size (fun W => ∃ O v, FrV W2 O2 c (W2.heap.size + 1) (W2.heap.size + 2) W2.heap.size W4.heap.size (Qk.mid lf zw row (i + 1)) (((Qk.out lf zw row).take (i + 1)).map Prod.fst) O v W) W .normal aa (w2.setCell ⟨W2.heap.size, 0, none⟩ v2)) := fun aa => by
      refine ⟨rfl, ⟨Nat.le_trans hx5.tch.size hf7.1, fun k k1 k2 => ?_⟩, O5, v2, hf6⟩
      rw [hf7.2 k k1 k2]
      refine hx5.tch.block k (by have := HSW.out; omega) (fun hO => ?_)
      rcases Nat.lt_or_ge k (W4.heap.size + 1) with hk | hk
      · obtain rfl : k = W4.heap.size := by omega
        exact HFF.out.nb hO
      · obtain rfl : k = W4.heap.size + 1 := by omega
        exact HFF.out.nb' hO
    obtain ⟨xl, hxl⟩ : ∃ x, x = (((Qk.out lf zw row).take i).map Prod.fst).length := ⟨_, rfl⟩
    rw [← hxl] at hvE
    subst hvE
    obtain ⟨a2, cap2, hv2E⟩ := qo_form hown
    obtain ⟨n2, hn2⟩ : ∃ n2, n2 = (((Qk.out lf zw row).take i).map Prod.fst ++ [o.1]).length := ⟨_, rfl⟩
    rw [← hn2] at hv2E
    subst hv2E
    have HRUN := Lib.hid hrun
    clear hF5 hb5 hL5 hx5 hbl hown hg hw hf6 hf7 hvX hb2 hrun hxl hn2 HFF HBX HKB t0 r0 r1
    obtain ⟨x, hx⟩ : ∃ x, x = o.1 := ⟨_, rfl⟩
    rw [← hx] at u0 u1 HRUN ⊢
    clear hx
    gi_wp2_with (gi_at_builtin; refine wpListIn_append_knownQ rfl (.tmp 45) (.tmp 48) 32 rfl _ _ _ _ rfl rfl HRUN.out ?_)
    exact HF.out _
  case done =>
    rintro W hle ⟨O, v, hF⟩ hD
    rw [List.take_length, HME.out.1] at hF
    have hz4 := HZ4.out
    have hn2 : ¬ O2 w'.heap.size := HX2.out.not (HK1.out.lt) HKN.out
    have hkb := hF.nx.has HK2.out hn2
    have t0 := hkb.one.1
    have nxW : Nxt (fun g => ow g = some S) w' O W := ((Nxt.below HB1.out).trans HX2.out).trans hF.nx
    have hv := hF.hb.one.1
    have hsW := hF.hb.lt
    obtain ⟨pr, hpr⟩ : ∃ x, x = Qk.prom lf zw row := ⟨_, rfl⟩
    rw [← hpr] at hF
    have hbS : w'.heap.size + 1 ≤ W2.heap.size := by have := HX2.out.tch.size; have := HK1.out.lt; omega
    have hvb : ∀ g, v.ownBlock = some g → W2.heap.size ≤ g ∧ g < W.heap.size := fun g hg => World.ownsRow.lt hF.own g hg
    have hfree : Qk.free (s S) (p : Int) = if pr.hs = [] then Qk.nob else pr := by
      have e1 : (p : Int).toNat = p := by omega
      unfold Qk.free
      rw [if_pos HE.out, e1, ← HQ.out.1, ← HQ.out.2.1, ← HQ.out.2.2, ← hpr]
    have hlt4 : W4.heap.size < W.heap.size := (show Has W W4.heap.size (.deferred (some [])) from hD).lt
    have hnm : ¬ (ow m = some S) := by rw [HLV.out.om]; intro e; cases e
    have hmW : Ap Try.prog 9 W m n f := HLV.out.map.tch nxW.tch hnm
    have hbW : Has W b (.cells #[.map (some m)] 51 (0, 0)) := HLV.out.has.tch nxW.tch (by rw [HLV.out.ob]; intro e; cases e)
    have c0 := hbW.one.1
    have hgd : Qk.Good (Qk.free (s S) (p : Int)) := HG.out.free _
    obtain ⟨hhv, hrv, hV⟩ := hF.lk
    obtain ⟨ah, caph, hhE⟩ := qo_form hV.h
    have c1 := hV.cells.1
    rw [hhE] at c1
    have hxn : ((Qk.out lf zw row).map Prod.fst).length = (Qk.freeN (s S) (p : Int)).length ∧ qn ((Qk.out lf zw row).map Prod.fst) = qn (Qk.freeN (s S) (p : Int)) := by rw [HN.out]; exact ⟨rfl, rfl⟩
    obtain ⟨xl, hxl⟩ : ∃ x, x = ((Qk.out lf zw row).map Prod.fst).length := ⟨_, rfl⟩
    have hown := hF.own
    rw [← hxl] at hown
    obtain ⟨av, capv, hvE⟩ := qo_form hown
    by_cases hz : pr.hs = []
    · rw [hz, List.length_nil] at c1
      rw [if_pos hz] at hfree
      obtain ⟨w5, hdel, hm5, ho5, hs5⟩ := hmW.drop (ty := 0) str_keyed Try.underlying49 (.string S) HKL.out
      have hvm : v.ownBlock ≠ some m := fun e => by
        obtain ⟨cs, h9⟩ := qo_kind hF.own m e
        obtain ⟨es, clock, h8, -⟩ := hmW
        rw [h9] at h8; cases h8
      have hb5 : Has w5 W2.heap.size (.cells #[v] 32 (0, 0)) := hF.hb.only ho5 (fun e => (hmW.ne_has hF.hb) e.symm)
      have hv5 := hb5.one.1
      have hD5 : w5.heap[W4.heap.size]? = some (.deferred (some [])) := (ho5.block _ hlt4 (fun e => by
        obtain ⟨es, clock, h8, -⟩ := hmW
        rw [← e] at h8
        rw [h8] at hD; cases hD)).trans hD
      have HFIN : Hid (FreeP w' b D s S p (.returned (.tuple #[v, .int .i64 0])) (w5.putObj W4.heap.size (.deferred none))) := by
        have ht : Tch (fun g => ow g = some S ∨ g = m) w' (w5.putObj W4.heap.size (.deferred none)) := by
          have h1 : Tch (fun g => ow g = some S ∨ g = m) w' W := nxW.tch.mono (fun i hi => Or.inl hi)
          have h2 : Tch (fun g => ow g = some S ∨ g = m) w' w5 := h1.then (Tch.of_only (S := fun g => g = m) ho5 rfl) (fun i hi => Or.inl (Or.inr hi))
          exact h2.then (T := fun g => g = W4.heap.size) ⟨rfl, rfl, rfl, by simp, fun k hk hn => World.putObj_heap_other (fun e => hn e)⟩ (fun i hi => Or.inr (by omega))
        obtain ⟨ow', D', h1, h2, h3⟩ := HLV.out.upd (f' := apd f (.string S) none) (n' := n) (Of := fun _ => False) S Qk.nob (hm5.same (World.putObj_heap_other (fun e => by
            obtain ⟨es, clock, h8, -⟩ := hm5
            rw [e] at h8; rw [h8] at hD5; cases hD5))) (fun x hx => apd_ne f none (str_ne hx)) ht (fun g hg => hg.elim) (fun g hg => hg.elim) (Or.inl ⟨apd_same _ _ _, rfl⟩) Qk.Good.nob
        refine ⟨v, D', by rw [HE.out], ?_, ⟨m, n, _, ow', by rw [hfree]; exact h1⟩, h2, fun g hg hD' => ?_⟩
        · rw [← hxn.1, ← hxn.2]
          refine World.ownsRow.mono (base := W2.heap.size) (qo_same hF.own (fun g hg => ?_)) (by omega)
          rw [World.putObj_heap_other (fun e => (hF.nv g hg).2.1 e)]
          exact ho5.block g (hvb g hg).2 (fun e => hvm (by rw [hg, e]))
        · rcases h3 g hD' with h4 | h4
          · have := HLV.out.lt g h4; have := (hvb g hg).1; omega
          · exact h4
      have HD5 := Lib.hid hD5
      subst hvE
      clear hF hkb hn2 nxW hsW hvb hfree hlt4 hnm hmW hbW hgd hV hhE hxn hxl hown hz hm5 ho5 hs5 hvm hb5 hD5 hD hle I0 HSEQ HH HFR HC eg hpr HLV
      gi_wp2
      refine ⟨by simp, .inl ⟨_, _, rfl, run_takeDeferred HD5.out, ?_⟩⟩
      exact ⟨.tuple #[.slice av xl capv, .int .i64 0], by simp [results, Try.results12, go_sem], HFIN.out⟩
    · rw [if_neg hz] at hfree
      have HFIN : Hid (FreeP w' b D s S p (.returned (.tuple #[v, .int .i64 0])) (W.putObj W4.heap.size (.deferred none))) := by
        have ht : Tch (fun g => ow g = some S ∨ g = m) w' (W.putObj W4.heap.size (.deferred none)) := by
          have h1 : Tch (fun g => ow g = some S ∨ g = m) w' W := nxW.tch.mono (fun i hi => Or.inl hi)
          exact h1.then (T := fun g => g = W4.heap.size) ⟨rfl, rfl, rfl, by simp, fun k hk hn => World.putObj_heap_other (fun e => hn e)⟩ (fun i hi => Or.inr (by omega))
        have hk9 : Lck (W.putObj W4.heap.size (.deferred none)) c O pr := hF.lk.tch (S := fun g => g = W4.heap.size) ⟨rfl, rfl, rfl, by simp, fun k hk hn => World.putObj_heap_other (fun e => hn e)⟩ (fun g hg e => hF.nb (e ▸ hg))
        rw [hfree] at hgd
        obtain ⟨ow', D', h1, h2, h3⟩ := HLV.out.upd (f' := f) (n' := n) (Of := O) S pr (hmW.same (World.putObj_heap_other (fun e => by
            obtain ⟨es, clock, h8, -⟩ := hmW
            rw [e] at h8; rw [h8] at hD; cases hD))) (fun x hx => rfl) ht nxW.new (fun g hg => by have := hV.lt g hg; simp; omega) (Or.inr ⟨c, HF.out, hz, hk9⟩) hgd
        refine ⟨v, D', by rw [HE.out], ?_, ⟨m, n, _, ow', by rw [hfree]; exact h1⟩, h2, fun g hg hD' => ?_⟩
        · rw [← hxn.1, ← hxn.2]
          refine World.ownsRow.mono (base := W2.heap.size) (qo_same hF.own (fun g hg => World.putObj_heap_other (fun e => (hF.nv g hg).2.1 e))) (by omega)
        · rcases h3 g hD' with h4 | h4
          · have := HLV.out.lt g h4; have := (hvb g hg).1; omega
          · exact (hF.nv g hg).1 h4
      have HD5 := Lib.hid hD
      obtain ⟨hl, hhl⟩ : ∃ x, x = pr.hs.length := ⟨_, rfl⟩
      have hnz : ¬ hl = 0 := by rw [hhl]; exact fun e => hz (List.eq_nil_of_length_eq_zero e)
      have hnz2 : ((hl : Int) == 0) = false := by rw [beq_eq_false_iff_ne]; omega
      rw [← hhl] at c1
      subst hvE
      clear hF hkb hn2 nxW hsW hvb hfree hlt4 hnm hmW hbW hgd hV hhE hxn hxl hown hz hD hle I0 HSEQ HH HFR HC eg hpr HLV hhl
      gi_wp2
      refine ⟨by simp, .inl ⟨_, _, rfl, run_takeDeferred HD5.out, ?_⟩⟩
      exact ⟨.tuple #[.slice av xl capv, .int .i64 0], by simp [results, Try.results12, go_sem], HFIN.out⟩
end Go.Proofs.Ytoipmdemicdhoaa
