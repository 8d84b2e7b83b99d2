/- The statement HuffReads: any lengths are a table or not; of it, at any place of any row, the symbol is read that the document says, or none, for its reason. It holds for every row of numbers, every row of bits and every integer, without a condition. -/
import Derived.Test.YtgffcffmhhdceaaHlent
import Derived.Test.YtgffcffmhhdceaaHrread
import Derived.Test.YtgffcffmhhdceaaHrnew
import Derived.Test.YtgffcffmhhdceaaHlives
namespace Go.Proofs.Ytgffcffmhhdceaa
open Go.ChangeShapes Go.WideShapes Go.ChangeAt Go.RowKit

/-- What is read, be the row right or not. -/
def Told (ls : List Nat) (bs : List Nat) (N y q1 q2 q3 : Int) : Prop :=
  (((0 ≤ N ∧ Bs.right bs N.toNat) ∧ 0 ≤ y ∧ y ≤ N) ∧ ∃ r : Nat × Nat × Int, q1 = (r.1 : Int) ∧ q2 = (r.2.1 : Int) ∧ q3 = r.2.2 ∧ Hf.Rd ls (Bs.bitsFrom bs N.toNat) y.toNat 0 r) ∨
    (¬ ((0 ≤ N ∧ Bs.right bs N.toNat) ∧ 0 ≤ y ∧ y ≤ N) ∧ q1 = 0 ∧ q2 = 0 ∧ q3 = 2)
theorem Told.one {ls bs : List Nat} {N y q1 q2 q3 p1 p2 p3 : Int} (h : Told ls bs N y q1 q2 q3) (k : Told ls bs N y p1 p2 p3) : q1 = p1 ∧ q2 = p2 ∧ q3 = p3 := by
  rcases h with ⟨h0, r, h1, h2, h3, h4⟩ | ⟨h0, h1, h2, h3⟩
  · rcases k with ⟨_, r', k1, k2, k3, k4⟩ | ⟨k0, _⟩
    · have := Hf.rd_one h4 k4
      rw [this] at h1 h2 h3
      rw [h1, h2, h3, k1, k2, k3]
      exact ⟨rfl, rfl, rfl⟩
    · exact absurd h0 k0
  · rcases k with ⟨k0, _⟩ | ⟨_, k1, k2, k3⟩
    · exact absurd k0 h0
    · rw [h1, h2, h3, k1, k2, k3]; exact ⟨rfl, rfl, rfl⟩

/-- What a call of either Read leaves. -/
def ToldPost (w : World) (ls bs : List Nat) (N y : Int) (e : Ending) (w' : World) : Prop :=
  ∃ q1 q2 q3 : Int, e = .returned (.tuple #[.int .i64 q1, .int .i64 q2, .int .i64 q3]) ∧ Told ls bs N y q1 q2 q3 ∧ Below w.heap.size w w'
theorem RdPost.told {w : World} {ls bs : List Nat} {n p : Nat} {e : Ending} {w' : World} (h : RdPost w ls (Bs.bitsFrom bs n) p e w') (hr : Bs.right bs n) (hp : p ≤ n) : ToldPost w ls bs n p e w' := by
  obtain ⟨r, he, hr2, hb⟩ := h
  exact ⟨_, _, _, he, Or.inl ⟨⟨⟨by omega, hr⟩, by omega, by omega⟩, r, rfl, rfl, rfl, hr2⟩, hb⟩
theorem bad_told {w : World} {ls bs : List Nat} {N y : Int} {e : Ending} {w' : World} (hb : ¬ ((0 ≤ N ∧ Bs.right bs N.toNat) ∧ 0 ≤ y ∧ y ≤ N)) (h : e = .returned (.tuple #[.int .i64 0, .int .i64 0, .int .i64 2]) ∧ Below w.heap.size w w') : ToldPost w ls bs N y e w' :=
  ⟨0, 0, 2, h.1, Or.inr ⟨hb, rfl, rfl, rfl⟩, h.2⟩
theorem bad_or {bs : List Nat} {N y : Int} (h : ¬ ((0 ≤ N ∧ Bs.right bs N.toNat) ∧ 0 ≤ y ∧ y ≤ N)) : ¬ (0 ≤ N ∧ Bs.right bs N.toNat) ∨ y < 0 ∨ N < y := by
  by_cases h1 : 0 ≤ N ∧ Bs.right bs N.toNat
  · right
    by_cases h2 : y < 0
    · exact Or.inl h2
    · exact Or.inr (by rcases Int.lt_or_le N y with h3 | h3; exact h3; exact absurd ⟨h1, by omega, h3⟩ h)
  · exact Or.inl h1
theorem read_told (T g capg : Nat) (ls : List Nat) (hg : Good ls) (s : Value) (bs : List Nat) (N y : Int) (w : World) (hT : Tb w T g capg ls) (hs : Sl w s bs) (hb : bs.length ≤ 140737488351232) (hN : N ≤ 9223372036854775807) :
    Calls Try.prog 23 #[.pointer (some ⟨T, 0, none⟩), .agg #[s, .int .i64 N], .int .i64 y] w (ToldPost w ls bs N y) := by
  by_cases h : (0 ≤ N ∧ Bs.right bs N.toNat) ∧ 0 ≤ y ∧ y ≤ N
  · obtain ⟨⟨h1, h2⟩, h3, h4⟩ := h
    obtain ⟨n, rfl⟩ := Int.eq_ofNat_of_zero_le h1
    obtain ⟨p, rfl⟩ := Int.eq_ofNat_of_zero_le h3
    have h2' : Bs.right bs n := h2
    have hpk := Bs.pack_bitsFrom bs n h2' hs.facts.1
    have hn : n ≤ 1125899906842624 := by have := h2'.1; omega
    exact (read_ok T g capg ls hg s (Bs.bitsFrom bs n) n p w hT (by rw [hpk]; exact hs) (show _ = _ by rw [Bs.bitsFrom_length]) (by omega) (by omega)).mono fun e w' hh => hh.told h2' (by omega)
  · exact (read_bad T g capg ls hg s bs N y w hT hs hN (bad_or h)).mono fun e w' hh => bad_told h hh
theorem rread_told (s2 : Value) (zs : List Int) (hf : Fit zs) (s : Value) (bs : List Nat) (N y : Int) (w : World) (hs : Sl w s bs) (hz : Zl w s2 zs) (hb : bs.length ≤ 140737488351232) (hN : N ≤ 9223372036854775807) :
    Calls Try.prog 24 #[s2, .agg #[s, .int .i64 N], .int .i64 y] w (ToldPost w (nat zs) bs N y) := by
  by_cases h : (0 ≤ N ∧ Bs.right bs N.toNat) ∧ 0 ≤ y ∧ y ≤ N
  · obtain ⟨⟨h1, h2⟩, h3, h4⟩ := h
    obtain ⟨n, rfl⟩ := Int.eq_ofNat_of_zero_le h1
    obtain ⟨p, rfl⟩ := Int.eq_ofNat_of_zero_le h3
    have h2' : Bs.right bs n := h2
    have hpk := Bs.pack_bitsFrom bs n h2' hs.facts.1
    have hn : n ≤ 1125899906842624 := by have := h2'.1; omega
    exact (rread_ok s2 zs s (Bs.bitsFrom bs n) n p w (by rw [hpk]; exact hs) hz (show _ = _ by rw [Bs.bitsFrom_length]) (by omega) (by omega) hf).mono fun e w' hh => hh.told h2' (by omega)
  · exact (rread_bad s2 zs s bs N y w hs hz hN (bad_or h)).mono fun e w' hh => bad_told h hh

theorem tb_only {w w' : World} {T g capg i : Nat} {ls : List Nat} (h : Tb w T g capg ls) (ho : Only i w w') (h1 : i ≠ T) (h2 : i ≠ g) : Tb w' T g capg ls :=
  ⟨h.counts.same (ho.block T h.counts.lt h1.symm) (Nat.lt_of_lt_of_le h.counts.lt ho.size), by rw [cell_of_heap (ho.block T h.counts.lt h1.symm)]; exact h.slice, h.cap, h.syms.same (ho.block g h.syms.lt h2.symm) (Nat.lt_of_lt_of_le h.syms.lt ho.size)⟩

set_option maxRecDepth 100000 in
set_option maxHeartbeats 8000000 in
theorem huffReads_walk (s2 : Value) (zs : List Int) (s : Value) (bs : List Nat) (N y : Int) (w : World) (hz : Zl w s2 zs) (hzl : zs.length ≤ 17592186043904) (hs : Sl w s bs) (hl : bs.length ≤ 140737488351232) (_ : -9223372036854775808 ≤ N) (hN : N ≤ 9223372036854775807) (_ : -9223372036854775808 ≤ y) (_ : y ≤ 9223372036854775807) :
    Calls Try.prog 5 #[s2, .agg #[s, .int .i64 N], .int .i64 y] w fun e w' => e = .returned (.bool true) ∧ Below w.heap.size w w' := by
  have HO : Hid (∀ w', Below w.heap.size w w' → Calls Try.prog 10 #[s2] w' (OwnI w' zs)) := fun w' h => own_any zs s2 w' (hz.later h) hzl
  have HRN : Hid (∀ w', Below w.heap.size w w' → Calls Try.prog 22 #[s2] w' fun e w'' => e = .returned (.int .i64 (newE zs)) ∧ w' = w'') := fun w' h => rnew_any zs s2 w' (hz.later h)
  unfold OwnI at HO
  have HZ := Lib.hid hz
  have HS := Lib.hid hs
  obtain ⟨a2, len2, cap2, rfl, hlen2⟩ := hz.shape
  obtain ⟨a, len, cap, rfl, hlen⟩ := hs.shape
  rw [← hlen2] at HO
  have HL2 := Lib.hid hlen2
  have HL := Lib.hid hlen
  have hl2 : len2 ≤ 17592186043904 := by omega
  have hll : len ≤ 140737488351232 := by omega
  have B0 := Lib.hid (below1 w (.cells #[.slice a len cap, .int .i64 N] 36))
  have X0 := Lib.hid (Has.new w (.cells #[.slice a len cap, .int .i64 N] 36))
  by_cases hne : newE zs = 0
  · rw [hne] at HRN
    have hf : Fit zs := by
      unfold newE at hne
      by_cases h : chk zs = 12 ∧ Lone (nat zs)
      · exact Or.inr h.1
      · rw [if_neg h] at hne; exact Or.inl hne
    have HG := Lib.hid (good_of hne)
    have HNEW := Lib.hid (fun s w' h => new_ok zs s w' h hne)
    have HF := Lib.hid hf
    clear hz hs hlen hlen2 hzl hl hne hf
    go_enter Try.func5, Try.ntmps5
    go_wp2_with fail
    refine (HO.out _ B0.out).mono ?_
    clear HO
    rintro e w1 ⟨g, cap1, rfl, hown, hb⟩
    have Z1 : Hid (Zl w1 (.slice (some ⟨g, 0, none⟩) len2 cap1) zs) := zl_own hown HL2.out (by omega)
    have hgB : w.heap.size + 1 ≤ g := by have := own_base hown; simpa using this
    have hfz : ∀ j, w1.frozen? ⟨g, j, none⟩ = false := fun j => hown.frozenAt j
    have hgl : g < w1.heap.size := (World.ownsRow.lt hown g rfl).2
    have hcl : ∀ j, j < len2 → w1.cell? ⟨g, j, none⟩ = some (.int .i64 (zs[j]?.getD 0)) := fun j hj => by
      rw [hown.cellAt j (by omega)]
      have : j < zs.length := by have := HL2.out; omega
      simp [this]
    have HFZ := Lib.hid hfz
    have HCL := Lib.hid hcl
    clear hfz hcl
    have X1 := Lib.hid (X0.out.later hb)
    have B1 := Lib.hid (B0.out.trans (hb.mono B0.out.size))
    clear hb hown X0 B0
    go_wp2_with fail
    refine (HNEW.out _ _ Z1.out).mono ?_
    clear HNEW
    rintro e w2 ⟨T, rfl, hT, hb⟩
    obtain ⟨gs, capg, hgs, hTb⟩ := tb_of hT HG.out
    have hT1 := hT.le
    have TB := Lib.hid hTb
    have X2 := Lib.hid (X1.out.later hb)
    have B2 := Lib.hid (B1.out.trans (hb.mono B1.out.size))
    have HF2 : Hid (∀ j, w2.frozen? ⟨g, j, none⟩ = false) := fun j => (frozen_of_heap (hb.block g hgl) j).trans (HFZ.out j)
    have HC2 : Hid (∀ j, j < len2 → w2.cell? ⟨g, j, none⟩ = some (.int .i64 (zs[j]?.getD 0))) := fun j hj => (cell_of_heap (hb.block g hgl) j).trans (HCL.out j hj)
    have hgl2 : g < w2.heap.size := Nat.lt_of_lt_of_le hgl hb.size
    have hgT : g ≠ T := by omega
    have hgS : g ≠ gs := by omega
    clear hT hTb hb X1 B1 HFZ HCL Z1 hgs hT1 hgl
    go_wp2_with (go_at_call 22; refine (HRN.out _ B2.out).mono ?_; rintro e w' ⟨rfl, rfl⟩)
    go_loopw [11] (fun s11 wr => ∃ i : Nat, i ≤ len2 ∧ s11 = .int .i64 i ∧ Hid (∀ j, i ≤ j → j < len2 → wr.cell? ⟨g, j, none⟩ = some (.int .i64 (zs[j]?.getD 0))) ∧ Hid (∀ j, wr.frozen? ⟨g, j, none⟩ = false) ∧ Hid (Only g w2 wr)) (fun s _ => len2 - (intOf s).toNat)
    case atStart => exact ⟨0, Nat.zero_le _, rfl, fun j _ hj => HC2.out j hj, HF2.out, Only.refl _ _⟩
    case round =>
      obtain ⟨i, hi, rfl, KC, KF, KO⟩ := hrel
      by_cases hlt : i < len2
      · have c0 := KC.out i (Nat.le_refl _) hlt
        have f0 := KF.out i
        have i1 : (0 : Int) ≤ (i : Int) := by omega
        have i2 : (i : Int) < (len2 : Int) := by omega
        have NC : Hid (∀ j, i + 1 ≤ j → j < len2 → (wr.setCell ⟨g, i, none⟩ (.int .i64 1)).cell? ⟨g, j, none⟩ = some (.int .i64 (zs[j]?.getD 0))) := fun j h1 h2 => by
          rw [World.cell?_setCell_other _ _ _ _ (addr_ne g (by omega))]
          exact KC.out j (by omega) h2
        have NF : Hid (∀ j, (wr.setCell ⟨g, i, none⟩ (.int .i64 1)).frozen? ⟨g, j, none⟩ = false) := fun j => by rw [World.frozen?_setCell]; exact KF.out j
        have NO : Hid (Only g w2 (wr.setCell ⟨g, i, none⟩ (.int .i64 1))) := KO.out.trans (only_set wr g i _)
        clear KC KF KO HC2 HF2
        go_wp2
        exact ⟨⟨i + 1, by omega, by go_num, NC, NF, NO⟩, by simp [intOf]; omega⟩
      · obtain rfl : i = len2 := by omega
        have BR : Hid (Below w.heap.size w wr) := KO.out.below B2.out (by omega) B2.out.size
        have TR := Lib.hid (tb_only TB.out KO.out hgT hgS)
        have XR := Lib.hid (X2.out.only KO.out (by omega))
        obtain ⟨c0, c1, _, _⟩ := XR.out.two
        clear KC KF KO HC2 HF2 TB X2 B2
        go_wp2_with fail
        refine (lent_walk a len cap bs N wr (HS.out.later BR.out) hll).mono ?_
        rintro e w3 ⟨gl, cl, rfl, ht, hb⟩
        have T3 := Lib.hid (TR.out.below hb)
        have S3 := Lib.hid ht
        have X3 := Lib.hid (XR.out.later hb)
        have B3 := Lib.hid (BR.out.trans (hb.mono BR.out.size))
        clear ht hb c0 c1 TR XR BR
        rw [← HL.out] at S3 ⊢
        go_wp2_with fail
        refine (read_told T gs capg (nat zs) HG.out _ bs N y w3 T3.out S3.out (by have := HL.out; omega) hN).mono ?_
        rintro e w4 ⟨q1, q2, q3, rfl, ht, hb⟩
        have X4 := X3.out.later hb
        obtain ⟨c0, c1, _, _⟩ := X4.two
        have B4 := Lib.hid (B3.out.trans (hb.mono B3.out.size))
        have HT4 := Lib.hid ht
        clear ht hb X4
        go_wp2_with fail
        refine (rread_told _ zs HF.out _ bs N y w4 (HS.out.later B4.out) (HZ.out.later B4.out) (by have := HL.out; omega) hN).mono ?_
        rintro e w5 ⟨p1, p2, p3, rfl, ht, hb⟩
        obtain ⟨rfl, rfl, rfl⟩ := HT4.out.one ht
        have B5 := Lib.hid (B4.out.trans (hb.mono B4.out.size))
        clear ht hb HT4 c0 c1
        go_wp2_with fail
        refine (lives_any _).mono ?_
        rintro e w6 ⟨rfl, hb⟩
        have B6 := Lib.hid (B5.out.trans (hb.mono B5.out.size))
        clear hb
        go_wp2
        go_ret
        exact ⟨rfl, B6.out⟩
  · have HNEW := Lib.hid (fun s w' h => new_no zs s w' h hne)
    unfold NoTab at HNEW
    obtain ⟨c, hc⟩ : ∃ c, c = newE zs := ⟨_, rfl⟩
    rw [← hc] at HNEW HRN hne
    have d0 : (c == 0) = false := by rw [beq_eq_false_iff_ne]; exact hne
    clear hz hs hlen hlen2 hzl hl hc
    go_enter Try.func5, Try.ntmps5
    go_wp2_with fail
    refine (HO.out _ B0.out).mono ?_
    clear HO
    rintro e w1 ⟨g, cap1, rfl, hown, hb⟩
    have Z1 : Hid (Zl w1 (.slice (some ⟨g, 0, none⟩) len2 cap1) zs) := zl_own hown HL2.out (by omega)
    have B1 := Lib.hid (B0.out.trans (hb.mono B0.out.size))
    clear hb hown X0 B0
    go_wp2_with fail
    refine (HNEW.out _ _ Z1.out).mono ?_
    clear HNEW
    rintro e w2 ⟨rfl, hb⟩
    have B2 := Lib.hid (B1.out.trans (hb.mono B1.out.size))
    clear hb Z1 B1
    go_wp2_with (go_at_call 22; refine (HRN.out _ B2.out).mono ?_; rintro e w' ⟨rfl, rfl⟩)
    refine (lives_any _).mono ?_
    rintro e w6 ⟨rfl, hb⟩
    have B6 := Lib.hid (B2.out.trans (hb.mono B2.out.size))
    clear hb
    go_wp2
    go_ret
    exact ⟨rfl, B6.out⟩

set_option maxRecDepth 100000 in
theorem huffReads_lifted (os : Os) (started : os.Started) (H : Type) (enc : TypeId × Value → H) :
    ReturnsInHanded {} Try.checked os 5 .any (Rows.huffReadsSpec.pre6 enc Try.prog Try.f5 Rows.huffReadsRow.domain false) (Rows.huffReadsSpec.post enc Try.prog Try.f5 false true false false) := by
  refine returnsInHanded_of_change_sized (C := Try.checked) Try.own started (by kernel_rfl) Try.func5
    (ChangeSpec.witness6 (enc := enc) (C := Try.checked) false ⟨#[], #[.slice none 0 0, .agg #[.slice none 0 0, .int .i64 0], .int .i64 0], []⟩ 8 (by kernel_rfl) (by kernel_rfl) (by kernel_rfl) (by kernel_rfl)) ?_
  intro W base args ds gs before hval0 hW _ hsz0 _
  have hval : ∀ (j : Nat) t v, Try.f5.params[j]? = some t → args[j]? = some v → Value.okWide Try.prog W .any base t v := hval0
  have hsz : (DataW.weightsEach Try.prog (Try.f5.params.toList ++ Rows.huffReadsSpec.plain.varTypes Try.prog) (ds ++ gs)).all (· ≤ reachBytes) = true := hsz0
  have hW' := hW
  obtain ⟨p, q, hA0, hV, rfl, hfz, hnd⟩ := hW
  have hA : DataW.TrodAll enc Try.prog W 0 (fun _ => true) true Try.f5.params.toList args.toList ds p := hA0
  rw [Try.params5] at hA hval hsz
  obtain ⟨v0, vs0, d0, ds0, p0, q0, hargs, rfl, rfl, h0, r0⟩ := trodAll_cons hA
  obtain ⟨v1, vs1, d1, ds1, p1, q1, rfl, rfl, rfl, h1, r1⟩ := trodAll_cons r0
  obtain ⟨v2, vs2, d2, ds2, p2, q2, rfl, rfl, rfl, h2, r2⟩ := trodAll_cons r1
  obtain ⟨rfl, rfl, rfl⟩ := trodAll_nil r2
  obtain rfl : args = #[v0, v1, v2] := by cases args; simp_all
  obtain ⟨rfl, rfl⟩ := trodVars_none hV
  have k0 := h0
  have lt0 : ∀ x ∈ p0, x.block < W.heap.size := by obtain ⟨m, hm⟩ := k0; exact DataW.trod_lt m _ _ _ hm
  have w0 : ∀ n ∈ d0.weights Try.prog 22, n ≤ reachBytes := fun n hn => by simpa using List.all_eq_true.1 hsz n (DataW.weights_mem_each (j := 0) rfl rfl n hn)
  obtain ⟨zs0, zl0, ln0⟩ := ints_open (hval 0 22 v0 rfl rfl) h0 w0
  have k1 := h1
  have lt1 : ∀ x ∈ p1, x.block < W.heap.size := by obtain ⟨m, hm⟩ := k1; exact DataW.trod_lt m _ _ _ hm
  have w1 : ∀ n ∈ d1.weights Try.prog 36, n ≤ reachBytes := fun n hn => by simpa using List.all_eq_true.1 hsz n (DataW.weights_mem_each (j := 1) rfl rfl n hn)
  obtain ⟨s1, bs1, n1, rfl, sl1, ln1, lo1, hi1⟩ := bits_open (hval 1 36 v1 rfl rfl) h1 w1
  have k2 := h2
  have lt2 : ∀ x ∈ p2, x.block < W.heap.size := by obtain ⟨m, hm⟩ := k2; exact DataW.trod_lt m _ _ _ hm
  obtain ⟨n2, ev2, _, _, wn2⟩ := open_int Try.underlying3 (hval 2 3 v2 rfl rfl) h2
  subst ev2
  obtain ⟨lo2, hi2⟩ := wf_bounds wn2
  clear hA0 hval0 hsz0
  refine (huffReads_walk v0 zs0 s1 bs1 n1 n2 W zl0 ln0 sl1 ln1 lo1 hi1 lo2 hi2).mono fun e W' ⟨he, bel⟩ => ?_
  subst he
  exact ⟨_, rfl, _, _, _, [], _, [], hW', trodAll_mk1 (shut_bool Try.underlying4 _), (trodAll_cons_mk (Below.trod Try.laidOut (by kernel_rfl) (of_decide_eq_true (by kernel_rfl)) k0 bel lt0) (trodAll_cons_mk (Below.trod Try.laidOut (by kernel_rfl) (of_decide_eq_true (by kernel_rfl)) k1 bel lt1) (trodAll_cons_mk (Below.trod Try.laidOut (by kernel_rfl) (of_decide_eq_true (by kernel_rfl)) k2 bel lt2) trodAll_mk0))), rfl, bel.frame _, fun h => by cases h⟩

theorem huffReads_proved : Rows.HuffReadsSaid :=
  OpenClaim.holds_of_wide 5 Try.f5 rfl rfl rfl rfl rfl rfl rfl ⟨rfl, rfl, rfl, rfl, rfl⟩ rfl rfl rfl rfl rfl (by kernel_rfl) Try.func5 (by kernel_rfl)
    (of_decide_eq_true (by kernel_rfl)) (by unfold Func.isWrapper; rw [if_neg (of_decide_eq_false (by kernel_rfl))]; exact ⟨rfl, rfl⟩)
    (fun os started H enc _ => huffReads_lifted os started H enc)
end Go.Proofs.Ytgffcffmhhdceaa
