/- InflateStored: its argument, its loop. -/
import Derived.Test.YtgbojpakddjhlaaGreatDoorIlives
import Derived.Test.YtgbojpakddjhlaaGreatDoorCarg
import Derived.Test.YtgbojpakddjhlaaGreatDoorCcap
import Derived.Test.YtgbojpakddjhlaaGreatDoorIpst
import Derived.LaidMore
import Derived.Laws.BitsAllLaws

namespace Go.Proofs.YtgbojpakddjhlaaGreatDoor
set_option maxRecDepth 100000
open Go.ChangeShapes Go.WideShapes Go.ChangeAt Go.RowKit Go.Joins

/-- A slice of bytes that came in and is not long. -/
theorem sl_small {H : Type} {enc : TypeId × Value → H} {W : World} {fuel : Nat} {cs : List Value} {x : DataW H × List MemPlace}
    (h : DataW.trod enc Tryz.prog W 0 (fun _ => true) true fuel 22 cs = some x) : ∃ a len cap, cs = [.slice a len cap] ∧ (len ≤ 3000 → ∃ bs, Sl W (.slice a len cap) bs) := by
  rcases open_ints Tryz.underlying22 Tryz.underlying5 Tryz.cellsU8 h with ⟨rfl, rfl⟩ | ⟨a, len, cap, zs, rfl, _, hl, hm, hz, rfl, hcell, hwz⟩
  · exact ⟨_, _, _, rfl, fun _ => ⟨[], Sl.nil W⟩⟩
  · have hz' : zs.length = cap := by simpa using hz
    refine ⟨_, _, _, rfl, fun h3 => ⟨(zs.take len).map Int.toNat, some a, len, cap, rfl, by simp; omega, by omega, fun h => by simp at h, ?_, fun h0 => ?_⟩⟩
    · intro y hy
      simp only [List.mem_map] at hy
      obtain ⟨z, hz1, rfl⟩ := hy
      have := wf_u8 (hwz z (List.mem_of_mem_take hz1))
      omega
    · obtain ⟨b, off, spot⟩ := a
      have hc0 := hcell 0 (by omega)
      have hspot : spot = none := by simpa [Addr.add] using World.cell?_spot hc0
      subst hspot
      refine ⟨b, off, rfl, ?_, fun i hi => ?_⟩
      · have := World.block_lt_of_cell? W _ hc0
        simpa [Addr.add] using this
      · have hc := hcell i (by omega)
        have e : (⟨b, off, none⟩ : Addr).add i = ⟨b, off + i, none⟩ := by cases i <;> simp [Addr.add]
        rw [e] at hc
        rw [hc]
        have hi' : i < zs.length := by omega
        have := wf_u8 (hwz zs[i] (List.getElem_mem hi'))
        simp [hi, List.getElem?_eq_getElem hi', List.getD]
        omega

/-- A slice of slices of bytes. -/
def Bss (W : World) (v : Value) : Prop := ∃ a n cap, v = .slice a n cap ∧
  (0 < n → ∃ b off, a = some ⟨b, off, none⟩ ∧ b < W.heap.size ∧ ∀ i, i < n → ∃ ai li ci, W.cell? ⟨b, off + i, none⟩ = some (.slice ai li ci) ∧ (li ≤ 3000 → ∃ bs, Sl W (.slice ai li ci) bs))

theorem bytess_open {H : Type} {enc : TypeId × Value → H} {W : World} {v : Value} {d : DataW H} {p : List MemPlace} {base : Nat} (hv : Value.okWide Tryz.prog W .any base 34 v)
    (h : DataW.Trod enc Tryz.prog W 0 (fun _ => true) true 34 v d p) : Bss W v := by
  obtain ⟨a1, len, cap, rfl⟩ := okWide_slice Tryz.underlying34 hv
  obtain ⟨fuel, hf⟩ := h
  have hc1 : Tryz.prog.cellsOf 22 = 1 := by kernel_rfl
  refine ⟨a1, len, cap, rfl, fun h0 => ?_⟩
  rcases DataW.trod_slice Tryz.underlying34 hf with ⟨hcs, _⟩ | ⟨a, len', cap', elems, rest, n, _, hcs, hx, _, hl, _, hlen, hel, _⟩
  · simp [Value.cells] at hcs
    omega
  · simp [Value.cells] at hcs
    obtain ⟨rfl, rfl, rfl⟩ := hcs
    have key : ∀ i, i < len → ∃ c, W.cell? (a.add i) = some c ∧ ∃ y, DataW.trod enc Tryz.prog W 0 (fun _ => true) true n 22 [c] = some y := by
      intro i hi
      have hE := hel i hi
      rw [hc1, Nat.mul_one] at hE
      rw [List.getElem?_eq_getElem (by omega)] at hE
      simp only [Option.bind_eq_some_iff] at hE
      obtain ⟨c1, hc1, hy1⟩ := hE
      have e0 : (a.add i).add 0 = a.add i := by simp [Addr.add]
      have : ∃ c, c1 = [c] ∧ W.cell? (a.add i) = some c := by
        unfold World.cells? at hc1
        split at hc1
        · simp only [List.range_succ, List.range_zero, List.nil_append, List.mapM_cons, List.mapM_nil, e0] at hc1
          cases hcc : W.cell? (a.add i) with
          | none => simp [hcc] at hc1
          | some c => simp [hcc] at hc1; exact ⟨c, hc1.symm, rfl⟩
        · cases hc1
      obtain ⟨c, rfl, hcell⟩ := this
      exact ⟨c, hcell, _, hy1⟩
    obtain ⟨b, off, spot⟩ := a
    obtain ⟨c0, hc0, _⟩ := key 0 h0
    have hspot : spot = none := by simpa [Addr.add] using World.cell?_spot hc0
    subst hspot
    refine ⟨b, off, rfl, ?_, fun i hi => ?_⟩
    · have := World.block_lt_of_cell? W _ hc0
      simpa [Addr.add] using this
    · obtain ⟨c, hc, y, hy⟩ := key i hi
      have e : (⟨b, off, none⟩ : Addr).add i = ⟨b, off + i, none⟩ := by cases i <;> simp [Addr.add]
      rw [e] at hc
      obtain ⟨ai, li, ci, e2, e3⟩ := sl_small hy
      have : c = .slice ai li ci := by simpa using e2
      subst this
      exact ⟨ai, li, ci, hc, e3⟩

namespace If
/-- Stored blocks, none of them marked. -/
def pre0 (L : List (List Nat)) : List Nat := (L.map (blk 0)).flatten
theorem pre0_snoc (L : List (List Nat)) (x : List Nat) : pre0 (L ++ [x]) = pre0 L ++ blk 0 x := by simp [pre0]
theorem strm_snoc : ∀ (L : List (List Nat)) (x : List Nat), strm (L ++ [x]) = pre0 L ++ blk 1 x
  | [], x => by simp [strm, pre0]
  | [y], x => by simp [strm, pre0]
  | y :: z :: r, x => by
    have := strm_snoc (z :: r) x
    simp only [List.cons_append] at this
    simp only [List.cons_append, strm, this, pre0, List.map_cons, List.flatten_cons, List.append_assoc]
/-- What has been laid behind so many blocks of n. -/
def laidTo (n : Nat) (L : List (List Nat)) : List Nat := if L.length = n then strm L else pre0 L
theorem laidTo_snoc (n : Nat) (L : List (List Nat)) (x : List Nat) (h : L.length < n) : laidTo n (L ++ [x]) = laidTo n L ++ blk (if L.length + 1 = n then 1 else 0) x := by
  unfold laidTo
  rw [if_neg (by omega : ¬ L.length = n), List.length_append, List.length_singleton]
  by_cases h1 : L.length + 1 = n
  · rw [if_pos h1, if_pos h1, strm_snoc]
  · rw [if_neg h1, if_neg h1, pre0_snoc]
theorem laidTo_nil (n : Nat) : laidTo n [] = [] := by unfold laidTo; split <;> rfl
end If

theorem strB_size (x : List Nat) : (strB x).size = x.length := by unfold strB; rw [strOfNums_size, List.length_map]
theorem strB_append (x y : List Nat) : strB (x ++ y) = strB x ++ strB y := by
  apply ByteArray.ext
  rw [ByteArray.data_append]
  unfold strB strOfNums
  simp

theorem u8_not (a : Nat) (h : a < 256) : bits .xor .u8 IntKind.u8.max (a : Int) = ((255 - a : Nat) : Int) := by
  have e : (IntKind.u8.max : Int) = ((255 : Nat) : Int) := rfl
  rw [e, u8_xor_nat 255 a (by decide) h]
  congr 1
  apply Nat.eq_of_testBit_eq
  intro i
  rw [Nat.testBit_xor, show 255 - a = 2 ^ 8 - (a + 1) by omega, Nat.testBit_two_pow_sub_succ (by omega), show (255 : Nat) = 2 ^ 8 - (0 + 1) by rfl, Nat.testBit_two_pow_sub_succ (by omega)]
  by_cases hi : i < 8
  · simp [hi]
  · have : a.testBit i = false := Nat.testBit_lt_two_pow (Nat.lt_of_lt_of_le (show a < 2 ^ 8 by omega) (Nat.pow_le_pow_right (by omega) (by omega)))
    simp [hi, this]

/-- Bytes behind the call's own, from a block that holds them. -/
theorem bytes_lit (w : World) (base n : Nat) (v : Value) (bs : List Nat) (hown : w.ownsRow base 5 1 v n (vb bs)) (g m c : Nat) (xs : List Nat) (ty : TypeId) (hx : Has w g (bytesObj xs)) (hm : m = xs.length) (h0 : 0 < m) (h1 : n ≤ 1000000) (h2 : m ≤ 1000000) (hb : base ≤ w.heap.size) :
    ∃ g' cap' w', (Builtin.append_ #[22, 22] ty #[v, .slice (some ⟨g, 0, none⟩) m c]).run Tryz.prog w = .ok (.slice (some ⟨g', 0, none⟩) (n + m) cap') w' ∧
      w'.ownsRow base 5 1 (.slice (some ⟨g', 0, none⟩) (n + m) cap') (n + m) (vb (bs ++ xs)) ∧ w.grownBy w' v.ownBlock := by
  obtain ⟨i0, hi, hz0, hz1, hz2⟩ := info_parts Tryz.infoU8
  obtain ⟨v', w', hrun, r1, r2, r3⟩ := run_append_own (P := Tryz.prog) w base 22 ty 5 i0 (.int .u8 0) 1 1 Tryz.underlying22 hi hz0 hz1 hz2 rfl (by decide) v n (vb bs) hown ⟨g, 0, none⟩ m c (vb xs) (by rw [vb_length]; omega)
    (fun j u hj => by
      have e : (⟨g, 0, none⟩ : Addr).add j = ⟨g, j, none⟩ := by cases j <;> simp [Addr.add]
      have h' : Has w g (.cells (vb xs).toArray 5 (0, 0)) := hx
      rw [e, h'.cell, List.getElem?_toArray]
      exact hj)
    (oneCell_vb _) (by unfold maxLen; omega) (by omega) hb
  have hsh : ∃ g' cap', v' = .slice (some ⟨g', 0, none⟩) (n + m) cap' := by
    rcases r1.2 with ⟨_, h⟩ | ⟨g', cap', _, h, _⟩
    · omega
    · exact ⟨g', cap', h⟩
  obtain ⟨g', cap', rfl⟩ := hsh
  exact ⟨g', cap', w', hrun, by rw [vb_append]; exact r1, r2⟩

set_option maxHeartbeats 8000000 in
theorem stored_beyond (a : Option Addr) (n cap : Nat) (w : World) (hg : GG w) (h : n = 0 ∨ 12 < n) :
    Calls Tryz.prog 7 #[.slice a n cap] w fun e w' => e = .returned (.bool true) ∧ Below w.heap.size w w' := by
  have HL := Lib.hid (tail_lives (Below.refl w.heap.size w) hg)
  clear hg
  by_cases h1 : n = 0
  · subst h1
    clear h
    go_enter Tryz.func7, Tryz.ntmps7
    go_wp2_with fail
    refine HL.out.mono ?_
    rintro e w' ⟨rfl, hb⟩
    have HB := Lib.hid hb
    clear hb HL
    go_wp2
    go_ret
    exact ⟨rfl, HB.out⟩
  · have d0 : ((n : Int) == 0) = false := by simp; omega
    have d0' : (n == 0) = false := by simp; omega
    have d1 : decide ((12 : Int) < (n : Int)) = true := by simp; omega
    have d1' : decide (12 < n) = true := by simp; omega
    clear h
    go_enter Tryz.func7, Tryz.ntmps7
    go_wp2_with fail
    refine HL.out.mono ?_
    rintro e w' ⟨rfl, hb⟩
    have HB := Lib.hid hb
    clear hb HL
    go_wp2
    go_ret
    exact ⟨rfl, HB.out⟩

set_option maxHeartbeats 8000000 in
theorem stored_walk (b off n cap : Nat) (w : World) (hlt : b < w.heap.size) (hc : ∀ i, i < n → ∃ ai li ci, w.cell? ⟨b, off + i, none⟩ = some (.slice ai li ci) ∧ (li ≤ 3000 → ∃ bs, Sl w (.slice ai li ci) bs)) (hg : GG w) (h1 : 0 < n) (h2 : n ≤ 12) :
    Calls Tryz.prog 7 #[.slice (some ⟨b, off, none⟩) n cap] w fun e w' => e = .returned (.bool true) ∧ Below w.heap.size w w' := by
  have HC := Lib.hid hc
  have HG := Lib.hid hg
  have d0 : ((n : Int) == 0) = false := by simp; omega
  have d0' : (n == 0) = false := by simp; omega
  have d1 : decide ((12 : Int) < (n : Int)) = false := by simp; omega
  have d1' : decide (12 < n) = false := by simp; omega
  have HE : Hid (({ data := #[] } : ByteArray) = strB ([] : List (List Nat)).flatten) := rfl
  clear hc hg
  go_enter Tryz.func7, Tryz.ntmps7
  go_wp2_with fail
  go_loopw [3, 4, 5] (fun s3 s4 s5 wr => ∃ (L : List (List Nat)) (i q c3 : Nat) (a3 : Option Addr) (S : ByteArray), s5 = .int .i64 (i : Int) ∧ i ≤ n ∧ q ≤ 37000 ∧ s4 = .string S ∧ s3 = .slice a3 q c3 ∧ Hid (i = L.length) ∧ Hid (S = strB L.flatten) ∧ Hid (q = (If.laidTo n L).length) ∧ Hid (q ≤ 3005 * i ∧ S.size ≤ 3000 * i) ∧ Hid ((∀ x ∈ L, x.length ≤ 3000) ∧ (∀ x ∈ L, ∀ y ∈ x, y < 256)) ∧
    Hid (wr.ownsRow w.heap.size 5 1 (.slice a3 q c3) q (vb (If.laidTo n L))) ∧ Hid (Below w.heap.size w wr)) (fun _ _ s _ => n - (intOf s).toNat)
  case atStart => exact ⟨[], 0, 0, 0, none, _, rfl, Nat.zero_le _, by omega, rfl, rfl, rfl, HE.out, by show _ = _; rw [If.laidTo_nil]; rfl, ⟨Nat.le_refl _, Nat.le_refl _⟩, ⟨fun x hx => (nomatch hx), fun x hx => (nomatch hx)⟩, by show World.ownsRow _ _ _ _ _ _ _; rw [If.laidTo_nil]; exact ⟨rfl, Or.inl ⟨rfl, rfl⟩⟩, Below.refl _ _⟩
  case round =>
    obtain ⟨L, i, q, c3, a3, S, rfl, hi, hq9, rfl, rfl, KI, KS, KQ, KQ3, KL, KO, KB⟩ := hrel
    by_cases hlt2 : i < n
    · obtain ⟨ai, li, ci, hcell0, hsl⟩ := HC.out i hlt2
      have hcell := (KB.out.cell (p := ⟨b, off + i, none⟩) hlt).trans hcell0
      have HSL := Lib.hid hsl
      clear hcell0 hsl
      by_cases h3 : 3000 < li
      · have HL := Lib.hid (tail_lives KB.out HG.out)
        have e1 : decide ((3000 : Int) < (li : Int)) = true := by simp; omega
        have e1' : decide (3000 < li) = true := by simp; omega
        go_wp2_with fail
        refine HL.out.mono ?_
        rintro e w' ⟨rfl, hb⟩
        have HB := Lib.hid hb
        clear hb HL
        go_wp2
        go_ret
        exact ⟨rfl, HB.out⟩
      · have e1 : decide ((3000 : Int) < (li : Int)) = false := by simp; omega
        have e1' : decide (3000 < li) = false := by simp; omega
        obtain ⟨x, hx⟩ := HSL.out (by omega)
        have HXL : Hid (li = x.length) := hx.len.1
        have HXS := Lib.hid hx
        have hli : li ≤ 3000 := by omega
        clear hx HSL h3
        obtain ⟨f, hf⟩ : ∃ f, f = (if i + 1 = n then 1 else 0) := ⟨_, rfl⟩
        obtain ⟨lo, hlo⟩ : ∃ lo, lo = li % 256 := ⟨_, rfl⟩
        obtain ⟨hi2, hhi⟩ : ∃ hi2, hi2 = li / 256 := ⟨_, rfl⟩
        obtain ⟨nl, hnl⟩ : ∃ nl, nl = 255 - lo := ⟨_, rfl⟩
        obtain ⟨nh, hnh⟩ : ∃ nh, nh = 255 - hi2 := ⟨_, rfl⟩
        have x1 : ((li : Int) % 256) = (lo : Int) := by omega
        have x2 : ((li : Int) / 256) = (hi2 : Int) := by omega
        have x3 : bits .xor .u8 IntKind.u8.max (lo : Int) = (nl : Int) := by rw [hnl]; exact u8_not lo (by omega)
        have x4 : bits .xor .u8 IntKind.u8.max (hi2 : Int) = (nh : Int) := by rw [hnh]; exact u8_not hi2 (by omega)
        have HBLK : Hid (If.blk f x = [f, lo, hi2, nl, nh] ++ x) := by show _ = _; unfold If.blk; rw [hnl, hnh, hlo, hhi, HXL.out]
        have HSN : Hid (If.laidTo n (L ++ [x]) = If.laidTo n L ++ [f, lo, hi2, nl, nh] ++ x) := by
          show _ = _
          rw [If.laidTo_snoc n L x (by rw [← KI.out]; exact hlt2), ← KI.out, ← hf, HBLK.out, List.append_assoc]
        have hn0 := Has.new wr (bytesObj [f, lo, hi2, nl, nh])
        have hb1 := below1 wr (bytesObj [f, lo, hi2, nl, nh])
        obtain ⟨g2, p2, w2, hr2, ho2, hg2⟩ := bytes_lit (wr.alloc (bytesObj [f, lo, hi2, nl, nh])) w.heap.size q (.slice a3 q c3) (If.laidTo n L) (KO.out.alloc _) wr.heap.size 5 5 [f, lo, hi2, nl, nh] 22 hn0 rfl (by decide) (by omega) (by decide) (Nat.le_trans KB.out.size hb1.size)
        have hb02 := below_app (KB.out.trans (hb1.mono KB.out.size)) (KO.out.alloc (bytesObj [f, lo, hi2, nl, nh])) hg2 (Nat.le_refl _) (Nat.le_trans KB.out.size hb1.size)
        obtain ⟨g3, p3, w3, hr3, ho3, hg3⟩ := bytes_more w2 w.heap.size g2 (q + 5) p2 _ ho2 ai li ci x 22 (HXS.out.later hb02) (by omega) (by omega) hb02.size
        have hb03 := below_app hb02 ho2 hg3 (Nat.le_refl _) hb02.size
        obtain ⟨T, hT⟩ : ∃ T, T = strB x := ⟨_, rfl⟩
        have r1 := string_of w3 ai li ci x T (HXS.out.later hb03) hT
        obtain ⟨ai0, li0, ci0, hcell0, _⟩ := HC.out i hlt2
        have hce := hcell0.symm.trans ((KB.out.cell (p := ⟨b, off + i, none⟩) hlt).symm.trans hcell)
        have HR2 := Lib.hid hr2
        have HR3 := Lib.hid hr3
        have k2 := (hb02.cell (p := ⟨b, off + i, none⟩) hlt).trans (hcell0.trans hce)
        have k3 := (hb03.cell (p := ⟨b, off + i, none⟩) hlt).trans (hcell0.trans hce)
        have HO3 := Lib.hid ho3
        have HB3 := Lib.hid hb03
        have HT := Lib.hid hT
        have hobj : bytesObj [f, lo, hi2, nl, nh] = .cells #[.int .u8 (f : Int), .int .u8 (lo : Int), .int .u8 (hi2 : Int), .int .u8 (bits .xor .u8 IntKind.u8.max (lo : Int)), .int .u8 (bits .xor .u8 IntKind.u8.max (hi2 : Int))] 5 (0, 0) := by rw [x3, x4]; rfl
        rw [hobj] at HR2
        clear hobj x3 x4
        clear hr2 hr3 ho2 ho3 hg2 hg3 hb02 hb03 hb1 hn0 hT hcell0 hce hlo hhi hnl hnh
        have HI2 : Hid (i + 1 = (L ++ [x]).length) := by show _ = _; rw [List.length_append, ← KI.out]; rfl
        have HST : Hid (S ++ T = strB (L ++ [x]).flatten) := by show _ = _; rw [List.flatten_append, strB_append, ← KS.out, HT.out]; simp
        have HQ2 : Hid (q + 5 + li = (If.laidTo n (L ++ [x])).length) := by show _ = _; rw [HSN.out, List.length_append, List.length_append, ← KQ.out, ← HXL.out]; rfl
        have hTs : T.size = li := by rw [HT.out, strB_size, HXL.out]
        have hq3 := KQ3.out
        have HQ4 : Hid (q + 5 + li ≤ 3005 * (i + 1) ∧ (S ++ T).size ≤ 3000 * (i + 1)) := ⟨by omega, by rw [ByteArray.size_append, hTs]; omega⟩
        have HL2 : Hid ((∀ y ∈ L ++ [x], y.length ≤ 3000) ∧ (∀ y ∈ L ++ [x], ∀ z ∈ y, z < 256)) := by
          constructor
          · intro y hy
            rw [List.mem_append] at hy
            rcases hy with hy | hy
            · exact KL.out.1 y hy
            · simp at hy; subst hy; rw [← HXL.out]; omega
          · intro y hy
            rw [List.mem_append] at hy
            rcases hy with hy | hy
            · exact KL.out.2 y hy
            · simp at hy; subst hy; exact sl_byte HXS.out
        have HOO : Hid (w3.ownsRow w.heap.size 5 1 (.slice (some ⟨g3, 0, none⟩) (q + 5 + li) p3) (q + 5 + li) (vb (If.laidTo n (L ++ [x])))) := by show World.ownsRow _ _ _ _ _ _ _; rw [HSN.out]; exact HO3.out
        have hss : ¬ 9223372036854775807 < S.size + T.size := by omega
        clear hTs HSN HO3 HT HXS HXL KI KS KQ KL KO KB
        have hqz : q + 5 + li ≤ 37000 := by have := HQ4.out.1; omega
        clear hq3 KQ3
        by_cases hlast : i + 1 = n
        · rw [if_pos hlast] at hf
          subst hf
          have dl : ((i : Int) == (n : Int) - 1) = true := by simp; omega
          go_wp2_with (at_builtin; (first | (refine wpList_append_is rfl (.tmp 43) (.tmp 57) 22 rfl _ _ _ _ rfl rfl HR2.out ?_) | (refine wpList_append_is rfl (.tmp 59) (.tmp 63) 22 rfl _ _ _ _ rfl rfl HR3.out ?_)))
          go_roundw
          case rel => exact ⟨L ++ [x], i + 1, q + 5 + li, p3, some ⟨g3, 0, none⟩, S ++ T, by go_num, by omega, by omega, rfl, rfl, HI2.out, HST.out, HQ2.out, HQ4.out, HL2.out, HOO.out, HB3.out⟩
          case measure => simp [intOf]; omega
        · rw [if_neg hlast] at hf
          subst hf
          have dl : ((i : Int) == (n : Int) - 1) = false := by simp; omega
          go_wp2_with (at_builtin; (first | (refine wpList_append_is rfl (.tmp 43) (.tmp 57) 22 rfl _ _ _ _ rfl rfl HR2.out ?_) | (refine wpList_append_is rfl (.tmp 59) (.tmp 63) 22 rfl _ _ _ _ rfl rfl HR3.out ?_)))
          go_roundw
          case rel => exact ⟨L ++ [x], i + 1, q + 5 + li, p3, some ⟨g3, 0, none⟩, S ++ T, by go_num, by omega, by omega, rfl, rfl, HI2.out, HST.out, HQ2.out, HQ4.out, HL2.out, HOO.out, HB3.out⟩
          case measure => simp [intOf]; omega
    · obtain rfl : i = n := by omega
      have hst : If.laidTo i L = If.strm L := by unfold If.laidTo; rw [if_pos KI.out.symm]
      have hne : L ≠ [] := by intro e; have := KI.out; rw [e] at this; simp at this; omega
      have hb9 := If.strm_lt L (fun x hx => by have := KL.out.1 x hx; omega) KL.out.2
      have hq := KQ.out
      have ho := KO.out
      rw [hst] at hq ho
      have hfl : L.flatten.length ≤ 36000 := by have h1 := KQ3.out.2; rw [KS.out, strB_size] at h1; omega
      have hsl : Sl wr (.slice a3 q c3) (If.strm L) := Sl.owned ho hb9 (by omega)
      have HD := Lib.hid (dec_is _ (If.strm L) 65536 wr hsl (by omega) (HG.out.later KB.out) _ _ _ (If.stored_decode L 65536 hne (fun x hx => by have := KL.out.1 x hx; omega) KL.out.2 (by omega) (by omega)))
      rw [← hq] at HD
      obtain ⟨m, hm⟩ : ∃ m, m = L.flatten.length := ⟨_, rfl⟩
      rw [← hm] at HD
      clear hst hne hb9 hq ho hfl hsl hm KI KQ KL KO
      go_wp2_with fail
      refine HD.out.mono ?_
      clear HD
      rintro e w1 ⟨a1, c1, rfl, hs1, hb1, _, _⟩
      have r1 := string_of w1 a1 m c1 _ S hs1 KS.out
      have HL := Lib.hid (tail_lives (KB.out.trans (hb1.mono KB.out.size)) HG.out)
      clear hs1 hb1
      go_wp2_with fail
      refine HL.out.mono ?_
      rintro e w' ⟨rfl, hb⟩
      have HB := Lib.hid hb
      clear hb HL r1
      go_wp2
      go_ret
      exact ⟨rfl, HB.out⟩
end Go.Proofs.YtgbojpakddjhlaaGreatDoor
