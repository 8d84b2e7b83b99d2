/- The statement CrcBursts: bytes of which up to 32 bits in a row are turned have another sum. It holds for all bytes and numbers, without a condition. -/
import Derived.Test.YtbegehgfdjmibaaClives
import Derived.Test.YtbegehgfdjmibaaCarg
import Derived.Test.YtbegehgfdjmibaaCapp
import Derived.Deep.RegionHeld3
namespace Go.Proofs.Ytbegehgfdjmibaa
open Go.ChangeShapes Go.WideShapes Go.ChangeAt Go.RowKit

theorem u8_xor (a b : Nat) (ha : a < 256) (hb : b < 256) : bits BinOp.xor IntKind.u8 (a : Int) (b : Int) = ((a ^^^ b : Nat) : Int) := by
  show IntKind.u8.wrap (((BitVec.ofInt 8 a ^^^ BitVec.ofInt 8 b).toNat : Nat) : Int) = _
  have h : a ^^^ b < 2 ^ 8 := Nat.xor_lt_two_pow (by omega) (by omega)
  rw [BitVec.toNat_xor, BitVec.toNat_ofInt, BitVec.toNat_ofInt]
  have e1 : ((a : Int) % ((2 ^ 8 : Nat) : Int)).toNat = a := by omega
  have e2 : ((b : Int) % ((2 ^ 8 : Nat) : Int)).toNat = b := by omega
  rw [e1, e2, IntKind.wrap_u8]
  omega

theorem pow_int (m : Nat) : ((2 : Int) ^ m) = ((2 ^ m : Nat) : Int) := by simp
theorem pow_byte (m : Nat) (hm : m < 8) : 2 ^ m < 256 := Nat.pow_lt_pow_right (n := 8) (by omega) hm
theorem u8_pow (m : Nat) (hm : m < 8) : IntKind.u8.wrap (2 ^ m) = 2 ^ m := by
  have h := pow_byte m hm
  rw [pow_int, IntKind.wrap_u8]
  generalize 2 ^ m = q at *
  omega
theorem u8_turn (x m : Nat) (hx : x < 256) (hm : m < 8) : bits BinOp.xor IntKind.u8 (x : Int) (2 ^ m) = ((x ^^^ 2 ^ m : Nat) : Int) := by
  rw [pow_int]
  exact u8_xor x (2 ^ m) hx (pow_byte m hm)

/-- Block g holds the bytes l, and maybe more behind them. -/
def Buf (w : World) (g : Nat) (l : List Nat) : Prop := ∃ cur : Array Value, Has w g (.cells cur 5 (0, 0)) ∧ cur.toList.take l.length = vb l ∧ l.length ≤ cur.size

theorem buf_of {w : World} {base g c len : Nat} {l : List Nat} (h : w.ownsRow base 5 1 (.slice (some ⟨g, 0, none⟩) len c) len (vb l)) : Buf w g l := by
  obtain ⟨h0, h1⟩ := h
  rw [vb_length] at h0
  rcases h1 with ⟨h1, _⟩ | ⟨g', cap', cur, he, _, hg, hc1, hc2, hc3, hc4⟩
  · cases h1
  · injection he with e1 e2 e3
    injection e1 with e1
    injection e1 with e1
    subst e1
    refine ⟨cur, hg, ?_, by omega⟩
    rw [h0]
    exact hc4

theorem Buf.cell {w : World} {g : Nat} {l : List Nat} (h : Buf w g l) (j : Nat) (hj : j < l.length) : w.cell? ⟨g, j, none⟩ = some (.int .u8 ((l[j]?.getD 0 : Nat) : Int)) ∧ w.frozen? ⟨g, j, none⟩ = false := by
  obtain ⟨cur, h1, h2, h3⟩ := h
  refine ⟨?_, h1.free j⟩
  rw [h1.cell]
  have e : (cur.toList.take l.length)[j]? = (vb l)[j]? := by rw [h2]
  rw [List.getElem?_take_of_lt hj, vb_get, List.getElem?_eq_getElem hj] at e
  rw [List.getElem?_eq_getElem hj]
  simpa using e

theorem Buf.set {w : World} {g : Nat} {l : List Nat} (h : Buf w g l) (j y : Nat) : Buf (w.setCell ⟨g, j, none⟩ (.int .u8 (y : Int))) g (l.set j y) := by
  obtain ⟨cur, h1, h2, h3⟩ := h
  refine ⟨_, h1.setSelf _, ?_, by simpa using h3⟩
  rw [List.length_set, vb_set, ← h2, Array.toList_setIfInBounds, List.take_set]

theorem Buf.sl {w : World} {g : Nat} {l : List Nat} (h : Buf w g l) (h8 : ∀ x ∈ l, x < 256) (len c : Nat) (hl : len = l.length) (hle : len ≤ 281474976710656) : Sl w (.slice (some ⟨g, 0, none⟩) len c) l := by
  refine ⟨_, len, c, rfl, hl, hle, (fun h => by cases h), h8, fun _ => ⟨g, 0, rfl, ?_, fun i hi => ?_⟩⟩
  · obtain ⟨cur, h1, _⟩ := h
    exact h1.lt
  · rw [Nat.zero_add]
    exact (h.cell i (by omega)).1

theorem low_succ (t k p : Nat) (h : t.testBit k = true) : t % 2 ^ (k + 1) * 2 ^ p = t % 2 ^ k * 2 ^ p ^^^ 2 ^ (p + k) := by
  have e : t % 2 ^ (k + 1) = t % 2 ^ k ^^^ 2 ^ k := by
    apply Nat.eq_of_testBit_eq
    intro i
    rw [Nat.testBit_xor, Nat.testBit_mod_two_pow, Nat.testBit_mod_two_pow, Nat.testBit_two_pow]
    by_cases hi : i = k
    · subst hi
      simp [h]
    · have e1 : decide (k = i) = false := by simpa using fun h => hi h.symm
      have e2 : decide (i < k + 1) = decide (i < k) := by
        rw [Bool.eq_iff_iff, decide_eq_true_iff, decide_eq_true_iff]
        omega
      rw [e1, e2, Bool.xor_false]
  rw [e, Nat.add_comm p k, Nat.pow_add, ← Nat.shiftLeft_eq, ← Nat.shiftLeft_eq, ← Nat.shiftLeft_eq, Nat.shiftLeft_xor_distrib]

theorem low_same (t k : Nat) (h : t.testBit k = false) : t % 2 ^ (k + 1) = t % 2 ^ k := by
  apply Nat.eq_of_testBit_eq
  intro i
  rw [Nat.testBit_mod_two_pow, Nat.testBit_mod_two_pow]
  by_cases hi : i = k
  · subst hi
    simp [h]
  · have e2 : decide (i < k + 1) = decide (i < k) := by
      rw [Bool.eq_iff_iff, decide_eq_true_iff, decide_eq_true_iff]
      omega
    rw [e2]

set_option maxHeartbeats 2000000 in
theorem crcBursts_walk (s : Value) (bs : List Nat) (at' : Int) (t : Nat) (w : World) (hs : Sl w s bs) (_ : bs.length ≤ 140737488351232) (_ : -9223372036854775808 ≤ at') (_ : at' ≤ 9223372036854775807) (ht : t < 4294967296) :
    Calls Try.prog 8 #[s, .int .i64 at', .int .u32 (t : Int)] w fun e w' => e = .returned (.bool true) ∧ Below w.heap.size w w' := by
  have HS := Lib.hid hs
  clear hs
  obtain ⟨a, len, cap, rfl, hl⟩ := HS.out.shape
  clear hl
  by_cases h : (16384 : Int) < len ∨ t = 0 ∨ at' < 0 ∨ 131072 < at'
  · go_enter Try.func8, Try.ntmps8
    by_cases h1 : (16384 : Int) < len
    · clear h
      go_wp2_with fail
      refine (lives_any _).mono ?_
      rintro e w3 ⟨rfl, b3⟩
      have B3 := Lib.hid b3
      clear b3
      go_wp2
      go_ret
      exact ⟨rfl, B3.out⟩
    · by_cases h2 : t = 0
      · clear h
        subst h2
        go_wp2_with fail
        refine (lives_any _).mono ?_
        rintro e w3 ⟨rfl, b3⟩
        have B3 := Lib.hid b3
        clear b3
        go_wp2
        go_ret
        exact ⟨rfl, B3.out⟩
      · have h4 : ¬ ((t : Int) == 0) = true := by rw [beq_iff_eq]; omega
        by_cases h3 : at' < 0
        · clear h
          go_wp2_with fail
          refine (lives_any _).mono ?_
          rintro e w3 ⟨rfl, b3⟩
          have B3 := Lib.hid b3
          clear b3
          go_wp2
          go_ret
          exact ⟨rfl, B3.out⟩
        · have h5 : 131072 < at' := by omega
          clear h
          go_wp2_with fail
          refine (lives_any _).mono ?_
          rintro e w3 ⟨rfl, b3⟩
          have B3 := Lib.hid b3
          clear b3
          go_wp2
          go_ret
          exact ⟨rfl, B3.out⟩
  · have h1 : (len : Int) ≤ 16384 := by omega
    have h2 : ((t : Int) == 0) = false := by rw [beq_eq_false_iff_ne]; omega
    obtain ⟨p, rfl⟩ := Int.eq_ofNat_of_zero_le (show 0 ≤ at' by omega)
    have h3 : (p : Int) ≤ 131072 := by omega
    clear h
    have hlen := HS.out.len.1
    have A1 : Hid ((w.alloc (.cells #[] 5)).ownsRow w.heap.size 5 1 (.slice (some ⟨w.heap.size, 0, none⟩) 0 0) 0 []) :=
      World.ownsRow_lit (base := w.heap.size) (e := 5) (size := 1) w #[] 0 (by simp) (by unfold maxLen; omega) rfl
    have B0 : Hid (Below w.heap.size w (w.alloc (.cells #[] 5))) := below1 w _
    have S0 := Lib.hid (HS.out.later B0.out)
    have HL := Lib.hid hlen
    clear hlen
    go_enter Try.func8, Try.ntmps8
    go_wp2_with (at_builtin; with_reducible refine wpList_append_sl rfl (.tmp 25) (.tmp 26) rfl w.heap.size w.heap.size 0 0 [] rfl A1.out a len cap bs rfl S0.out (by omega) (by simp) ?_; intro g c w1 ho1 hg1; have hO1 := Lib.hid (own_app_zero ho1.out); have hB1 := Lib.hid (below_grown B0.out hg1.out (by omega) B0.out.size); have hz1 := hB1.out.size; have hgz := own_base hO1.out; clear ho1 hg1)
    have hB := Lib.hid (buf_of hO1.out)
    have hN0 : Hid (Cr.num bs = Cr.num bs ^^^ t % 2 ^ 0 * 2 ^ p) := by show _ = _; rw [Nat.pow_zero, Nat.mod_one, Nat.zero_mul, Nat.xor_zero]
    clear hO1 A1 B0 S0
    go_loopw [8] (fun s8 wr => ∃ (k : Nat) (l : List Nat), s8 = .int .i64 (k : Int) ∧ k ≤ 32 ∧ l.length = len ∧ Hid (∀ x ∈ l, x < 256) ∧ Hid (Buf wr g l) ∧ Hid (Cr.num l = Cr.num bs ^^^ t % 2 ^ k * 2 ^ p) ∧ Hid (t % 2 ^ k ≠ 0 → p < 8 * len) ∧ Hid (Below w.heap.size w wr)) (fun s _ => 32 - (intOf s).toNat)
    case atStart => exact ⟨0, bs, rfl, by omega, HL.out.symm, HS.out.facts.1, hB, hN0, fun h => absurd (Nat.mod_one _) h, hB1⟩
    case round =>
      obtain ⟨k, l, rfl, hk, hl, h8, KBuf, KN, KP, KB⟩ := hrel
      by_cases hlt : k < 32
      · have hb := shr_bit t k
        cases hbit : t.testBit k
        · rw [hbit] at hb
          have hd : (bits BinOp.and IntKind.u32 ((t : Int) / 2 ^ k) 1 == 1) = false := by rw [hb]; rfl
          have hsame := Lib.hid (low_same t k hbit)
          clear hb
          go_wp2_with fail
          go_roundw
          case rel => exact ⟨k + 1, l, by go_num, by omega, hl, h8, KBuf, by show _ = _; rw [hsame.out]; exact KN.out, by show _ → _; rw [hsame.out]; exact KP.out, KB⟩
          case measure => simp [intOf]; omega
        · rw [hbit] at hb
          have hd : (bits BinOp.and IntKind.u32 ((t : Int) / 2 ^ k) 1 == 1) = true := by rw [hb]; rfl
          have hmore := Lib.hid (low_succ t k p hbit)
          clear hb
          by_cases hout : 8 * (len : Int) ≤ (p : Int) + (k : Int)
          · go_wp2_with fail
            refine (lives_any _).mono ?_
            rintro e w3 ⟨rfl, b3⟩
            have B3 := Lib.hid (KB.out.trans (b3.mono KB.out.size))
            clear b3
            go_wp2
            go_ret
            exact ⟨rfl, B3.out⟩
          · have hwr : IntKind.i64.wrap ((p : Int) + (k : Int)) = (p : Int) + (k : Int) := IntWalk.i64_in _ (by omega)
            have hq : IntKind.i64.wrap (((p : Int) + (k : Int)).tdiv 8) = (((p + k) / 8 : Nat) : Int) := by rw [Int.tdiv_eq_ediv_of_nonneg (by omega), IntWalk.i64_in _ (by omega)]; omega
            have hr : ((p : Int) + (k : Int)).tmod 8 = (((p + k) % 8 : Nat) : Int) := by rw [Int.tmod_eq_emod_of_nonneg (by omega)]; omega
            have hj : (p + k) / 8 < l.length := by omega
            have hm : (p + k) % 8 < 8 := by omega
            have hjm : 8 * ((p + k) / 8) + (p + k) % 8 = p + k := by omega
            have hset := Cr.num_set l ((p + k) / 8) ((p + k) % 8) hj
            have c0 := (KBuf.out.cell ((p + k) / 8) hj).1
            have f0 := (KBuf.out.cell ((p + k) / 8) hj).2
            have x8 : l[(p + k) / 8]?.getD 0 < 256 := by rw [List.getElem?_eq_getElem hj]; exact h8.out _ (List.getElem_mem hj)
            rw [hjm] at hset
            generalize l[(p + k) / 8]?.getD 0 = x at *
            generalize (p + k) / 8 = j at *
            generalize (p + k) % 8 = m at *
            have hj0 : (0 : Int) ≤ (j : Int) := by omega
            have hm0 : (0 : Int) ≤ (m : Int) := by omega
            have hw2 : IntKind.u8.wrap (2 ^ m) = 2 ^ m := u8_pow m hm
            have hx2 := u8_turn x m x8 hm
            have hj1 : (j : Int) < (len : Int) := by omega
            have hset2 := Lib.hid hset
            have hjm2 := Lib.hid hjm
            clear hset hjm
            go_wp2_with fail
            go_region_with (fail)
            have hbnd : x ^^^ 2 ^ m < 256 := Nat.xor_lt_two_pow (n := 8) x8 (pow_byte m hm)
            have KBuf2 : Hid (Buf (wr.setCell ⟨g, j, none⟩ (.int .u8 ((x ^^^ 2 ^ m : Nat) : Int))).drew g (l.set j (x ^^^ 2 ^ m))) := KBuf.out.set j (x ^^^ 2 ^ m)
            have KB2 : Hid (Below w.heap.size w (wr.setCell ⟨g, j, none⟩ (.int .u8 ((x ^^^ 2 ^ m : Nat) : Int))).drew) := below_drewN (KB.out.setCell (by show w.heap.size ≤ g; omega) _) 1
            have KN2 : Hid (Cr.num (l.set j (x ^^^ 2 ^ m)) = Cr.num bs ^^^ t % 2 ^ (k + 1) * 2 ^ p) := by
              show _ = _
              rw [hset2.out, KN.out, hmore.out, Cr.x3]
            have KP2 : Hid (t % 2 ^ (k + 1) ≠ 0 → p < 8 * len) := fun _ => by omega
            have K82 : Hid (∀ y ∈ l.set j (x ^^^ 2 ^ m), y < 256) := fun y hy => (List.mem_or_eq_of_mem_set hy).elim (h8.out y) (fun e => e ▸ hbnd)
            have hl2 : (l.set j (x ^^^ 2 ^ m)).length = len := by rw [List.length_set]; exact hl
            clear h8 KBuf KN KP KB c0 f0 hx2 hw2 hset2 hjm2 hmore
            generalize (wr.setCell ⟨g, j, none⟩ (.int .u8 ((x ^^^ 2 ^ m : Nat) : Int))).drew = w4 at *
            go_wp2_with fail
            go_roundw
            case rel => exact ⟨k + 1, l.set j (x ^^^ 2 ^ m), by go_num, by omega, hl2, K82, KBuf2, KN2, KP2, KB2⟩
            case measure => simp [intOf]; omega
      · obtain rfl : k = 32 := by omega
        have ht32 : t % 2 ^ 32 = t := Nat.mod_eq_of_lt ht
        have ht0 : t ≠ 0 := by rw [beq_eq_false_iff_ne] at h2; omega
        have hne : Cr.sum 0 l ≠ Cr.sum 0 bs := Cr.sum_burst bs l t p (by rw [hl, HL.out]) (by rw [KN.out, ht32]) (by have := KP.out (by rw [ht32]; exact ht0); rw [← HL.out]; omega) ht ht0
        obtain ⟨M, hM⟩ : ∃ M, M = Cr.sum 0 l := ⟨_, rfl⟩
        obtain ⟨N, hN⟩ : ∃ N, N = Cr.sum 0 bs := ⟨_, rfl⟩
        have hMN : ((M : Int) != (N : Int)) = true := by
          rw [bne_iff_ne]
          intro e
          exact hne (by rw [← hM, ← hN]; omega)
        have HM := Lib.hid hM
        have HN := Lib.hid hN
        have SL := Lib.hid (KBuf.out.sl h8.out len c hl.symm (by omega))
        have SB := Lib.hid (HS.out.later KB.out)
        clear hM hN hne ht32 h8 KBuf KN KP
        go_wp2_with fail
        refine (sum_is _ l M _ SL.out HM).mono ?_
        rintro e w3 ⟨rfl, rfl⟩
        go_wp2_with fail
        refine (sum_is _ bs N _ SB.out HN).mono ?_
        rintro e w3 ⟨rfl, rfl⟩
        go_wp2_with fail
        refine (lives_any _).mono ?_
        rintro e w3 ⟨rfl, b3⟩
        have B3 := Lib.hid (KB.out.trans (b3.mono KB.out.size))
        clear b3 KB
        go_wp2
        go_ret
        exact ⟨rfl, B3.out⟩

set_option maxRecDepth 100000 in
theorem crcBursts_lifted (os : Os) (started : os.Started) (H : Type) (enc : TypeId × Value → H) :
    ReturnsInHanded {} Try.checked os 8 .any (Rows.crcBurstsSpec.pre6 enc Try.prog Try.f8 Rows.crcBurstsRow.domain false) (Rows.crcBurstsSpec.post enc Try.prog Try.f8 false true false false) := by
  refine returnsInHanded_of_change_sized (C := Try.checked) Try.own started (by kernel_rfl) Try.func8
    (ChangeSpec.witness6 (enc := enc) (C := Try.checked) false ⟨#[], #[.slice none 0 0, .int .i64 0, .int .u32 0], []⟩ 8 (by kernel_rfl) (by kernel_rfl) (by kernel_rfl) (by kernel_rfl)) ?_
  intro W base args ds gs before hval0 hW _ hsz0 _
  have hval : ∀ (j : Nat) t v, Try.f8.params[j]? = some t → args[j]? = some v → Value.okWide Try.prog W .any base t v := hval0
  have hsz : (DataW.weightsEach Try.prog (Try.f8.params.toList ++ Rows.crcBurstsSpec.plain.varTypes Try.prog) (ds ++ gs)).all (· ≤ reachBytes) = true := hsz0
  have hW' := hW
  obtain ⟨p, q, hA0, hV, rfl, hfz, hnd⟩ := hW
  have hA : DataW.TrodAll enc Try.prog W 0 (fun _ => true) true Try.f8.params.toList args.toList ds p := hA0
  rw [Try.params8] at hA hval hsz
  obtain ⟨v0, vs0, d0, ds0, p0, q0, hargs, rfl, rfl, h0, r0⟩ := trodAll_cons hA
  obtain ⟨v1, vs1, d1, ds1, p1, q1, rfl, rfl, rfl, h1, r1⟩ := trodAll_cons r0
  obtain ⟨v2, vs2, d2, ds2, p2, q2, rfl, rfl, rfl, h2, r2⟩ := trodAll_cons r1
  obtain ⟨rfl, rfl, rfl⟩ := trodAll_nil r2
  obtain rfl : args = #[v0, v1, v2] := by cases args; simp_all
  obtain ⟨rfl, rfl⟩ := trodVars_none hV
  have k0 := h0
  have lt0 : ∀ x ∈ p0, x.block < W.heap.size := by obtain ⟨m, hm⟩ := k0; exact DataW.trod_lt m _ _ _ hm
  have w0 : ∀ n ∈ d0.weights Try.prog 23, n ≤ reachBytes := fun n hn => by simpa using List.all_eq_true.1 hsz n (DataW.weights_mem_each (j := 0) rfl rfl n hn)
  obtain ⟨bs0, sl0, ln0⟩ := bytes_open (hval 0 23 v0 rfl rfl) h0 w0
  have k1 := h1
  have lt1 : ∀ x ∈ p1, x.block < W.heap.size := by obtain ⟨m, hm⟩ := k1; exact DataW.trod_lt m _ _ _ hm
  obtain ⟨n1, ev1, _, _, wn1⟩ := open_int Try.underlying3 (hval 1 3 v1 rfl rfl) h1
  subst ev1
  obtain ⟨lo1, hi1⟩ := wf_bounds wn1
  have k2 := h2
  have lt2 : ∀ x ∈ p2, x.block < W.heap.size := by obtain ⟨m, hm⟩ := k2; exact DataW.trod_lt m _ _ _ hm
  obtain ⟨n2, ev2, _, _, wn2⟩ := open_int Try.underlying22 (hval 2 22 v2 rfl rfl) h2
  subst ev2
  obtain ⟨m2, rfl, lm2⟩ := u32_nat wn2
  clear hA0 hval0 hsz0
  refine (crcBursts_walk v0 bs0 n1 m2 W sl0 ln0 lo1 hi1 lm2).mono fun e W' ⟨he, bel⟩ => ?_
  subst he
  exact ⟨_, rfl, _, _, _, [], _, [], hW', trodAll_mk1 (shut_bool Try.underlying4 _), (trodAll_cons_mk (Below.trod Try.laidOut (by kernel_rfl) (of_decide_eq_true (by kernel_rfl)) k0 bel lt0) (trodAll_cons_mk (Below.trod Try.laidOut (by kernel_rfl) (of_decide_eq_true (by kernel_rfl)) k1 bel lt1) (trodAll_cons_mk (Below.trod Try.laidOut (by kernel_rfl) (of_decide_eq_true (by kernel_rfl)) k2 bel lt2) trodAll_mk0))), rfl, bel.frame _, fun h => by cases h⟩

theorem crcBursts_proved : Rows.CrcBurstsSaid :=
  OpenClaim.holds_of_wide 8 Try.f8 rfl rfl rfl rfl rfl rfl rfl ⟨rfl, rfl, rfl, rfl, rfl⟩ rfl rfl rfl rfl rfl (by kernel_rfl) Try.func8 (by kernel_rfl)
    (of_decide_eq_true (by kernel_rfl)) (by unfold Func.isWrapper; rw [if_neg (of_decide_eq_false (by kernel_rfl))]; exact ⟨rfl, rfl⟩)
    (fun os started H enc _ => crcBursts_lifted os started H enc)
end Go.Proofs.Ytbegehgfdjmibaa
