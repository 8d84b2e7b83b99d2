/- The statement CrcMixed: the sum of three rows of one length, xor byte by byte, is their sums' xor. It holds for all bytes, without a condition. -/
import Derived.Test.YtbegehgfdjmibaaClives
import Derived.Test.YtbegehgfdjmibaaCcap
import Derived.Deep.RegionHeld3
import Derived.Test.YtbegehgfdjmibaaCapp
namespace Go.Proofs.Ytbegehgfdjmibaa
open Go.ChangeShapes Go.WideShapes Go.ChangeAt Go.RowKit

theorem run_min4i (ts : Array TypeId) (t : TypeId) (x y z q : Int) (w : World) :
    (Builtin.min_ ts t #[.int .i64 x, .int .i64 y, .int .i64 z, .int .i64 q]).run Try.prog w =
      .ok (.int .i64 (if q < (if z < (if y < x then y else x) then z else (if y < x then y else x)) then q else (if z < (if y < x then y else x) then z else (if y < x then y else x)))) w := by
  simp [Builtin.min_, Builtin.min2]

theorem min4_nat (x y z q n : Nat) (hn : n = min (min (min x y) z) q) :
    (if (q : Int) < (if (z : Int) < (if (y : Int) < x then (y : Int) else x) then (z : Int) else (if (y : Int) < x then (y : Int) else x)) then (q : Int) else (if (z : Int) < (if (y : Int) < x then (y : Int) else x) then (z : Int) else (if (y : Int) < x then (y : Int) else x))) = (n : Int) := by
  subst hn
  repeat' split
  all_goals omega

theorem run_min4 (ts : Array TypeId) (t : TypeId) (x y z n : Nat) (hn : n = min (min (min x y) z) 16384) (w : World) :
    (Builtin.min_ ts t #[.int .i64 (x : Int), .int .i64 (y : Int), .int .i64 (z : Int), .int .i64 16384]).run Try.prog w = .ok (.int .i64 (n : Int)) w := by
  have h := run_min4i ts t x y z ((16384 : Nat) : Int) w
  rw [min4_nat x y z 16384 n hn] at h
  exact h

theorem u8_xor (a b : Nat) (ha : a < 256) (hb : b < 256) : bits BinOp.xor IntKind.u8 (a : Int) (b : Int) = ((a ^^^ b : Nat) : Int) := by
  show IntKind.u8.wrap (((BitVec.ofInt 8 a ^^^ BitVec.ofInt 8 b).toNat : Nat) : Int) = _
  have h : a ^^^ b < 2 ^ 8 := Nat.xor_lt_two_pow (by omega) (by omega)
  rw [BitVec.toNat_xor, BitVec.toNat_ofInt, BitVec.toNat_ofInt]
  have e1 : ((a : Int) % ((2 ^ 8 : Nat) : Int)).toNat = a := by omega
  have e2 : ((b : Int) % ((2 ^ 8 : Nat) : Int)).toNat = b := by omega
  rw [e1, e2, IntKind.wrap_u8]
  omega

theorem mix_byte (l m n : List Nat) (h1 : ∀ x ∈ l, x < 256) (h2 : ∀ x ∈ m, x < 256) (h3 : ∀ x ∈ n, x < 256) : ∀ x ∈ Cr.mix l m n, x < 256 := by
  induction l generalizing m n with
  | nil => intro x hx; simp [Cr.mix] at hx
  | cons a l ih =>
    match m, n with
    | [], _ => intro x hx; simp [Cr.mix] at hx
    | _ :: _, [] => intro x hx; simp [Cr.mix] at hx
    | b :: m, c :: n =>
      intro x hx
      simp only [Cr.mix, List.mem_cons] at hx
      rcases hx with rfl | hx
      · have e1 := h1 a List.mem_cons_self
        have e2 := h2 b List.mem_cons_self
        have e3 := h3 c List.mem_cons_self
        exact Nat.xor_lt_two_pow (n := 8) (Nat.xor_lt_two_pow (n := 8) e1 e2) e3
      · exact ih m n (fun x hx => h1 x (List.mem_cons_of_mem _ hx)) (fun x hx => h2 x (List.mem_cons_of_mem _ hx)) (fun x hx => h3 x (List.mem_cons_of_mem _ hx)) x hx

set_option maxHeartbeats 2000000 in
theorem crcMixed_walk (s : Value) (bs : List Nat) (t : Value) (cs : List Nat) (u : Value) (ds : List Nat) (w : World) (hs : Sl w s bs) (_ : bs.length ≤ 140737488351232) (ps : Capped s) (ht : Sl w t cs) (_ : cs.length ≤ 140737488351232) (pt : Capped t) (hu : Sl w u ds) (_ : ds.length ≤ 140737488351232) (pu : Capped u) :
    Calls Try.prog 7 #[s, t, u] w fun e w' => e = .returned (.bool true) ∧ Below w.heap.size w w' := by
  have HS := Lib.hid hs
  have HT := Lib.hid ht
  have HU := Lib.hid hu
  clear hs ht hu
  obtain ⟨a, len, cap, rfl, hl⟩ := HS.out.shape
  obtain ⟨b, len2, cap2, rfl, hl2⟩ := HT.out.shape
  obtain ⟨c, len3, cap3, rfl, hl3⟩ := HU.out.shape
  clear hl hl2 hl3
  have q1 := ps _ _ _ rfl
  have q2 := pt _ _ _ rfl
  have q3 := pu _ _ _ rfl
  clear ps pt pu
  obtain ⟨n, hn⟩ : ∃ n, n = min (min (min len len2) len3) 16384 := ⟨_, rfl⟩
  have hmin := fun ts t w => run_min4 ts t len len2 len3 n hn w
  have n1 : n ≤ len := by omega
  have n2 : n ≤ len2 := by omega
  have n3 : n ≤ len3 := by omega
  have n4 : n ≤ 16384 := by omega
  clear hn
  go_enter Try.func7, Try.ntmps7
  go_wp2_with fail
  go_loopw [8, 9] (fun s8 s9 wr => ∃ k : Nat, s9 = .int .i64 (k : Int) ∧ k ≤ n ∧ Hid (wr.ownsRow w.heap.size 5 1 s8 k (vb (Cr.mix (bs.take k) (cs.take k) (ds.take k)))) ∧ Hid (Below w.heap.size w wr)) (fun _ s _ => n - (intOf s).toNat)
  case atStart => exact ⟨0, rfl, Nat.zero_le _, ⟨rfl, Or.inl ⟨rfl, rfl⟩⟩, Below.refl _ _⟩
  case round =>
    obtain ⟨k, rfl, hk, KO, KB⟩ := hrel
    by_cases hlt : k < n
    · obtain ⟨b1, o1, rfl, l1, C1, x1, z1⟩ := HS.out.at k (by omega)
      obtain ⟨b2, o2, rfl, l2, C2, x2, z2⟩ := HT.out.at k (by omega)
      obtain ⟨b3, o3, rfl, l3, C3, x3, z3⟩ := HU.out.at k (by omega)
      have HM : Hid (Cr.mix (bs.take (k + 1)) (cs.take (k + 1)) (ds.take (k + 1)) = Cr.mix (bs.take k) (cs.take k) (ds.take k) ++ [bs[k]?.getD 0 ^^^ cs[k]?.getD 0 ^^^ ds[k]?.getD 0]) := by
        show _ = _
        rw [take_snoc bs k z1, take_snoc cs k z2, take_snoc ds k z3, Cr.mix_snoc _ _ _ _ _ _ (by simp; omega) (by simp; omega)]
      generalize bs[k]?.getD 0 = p at *
      generalize cs[k]?.getD 0 = q at *
      generalize ds[k]?.getD 0 = r at *
      have e1 := u8_xor p q x1 x2
      have e2 := u8_xor (p ^^^ q) r (Nat.xor_lt_two_pow (n := 8) x1 x2) x3
      generalize p ^^^ q ^^^ r = y at *
      generalize p ^^^ q = pq at *
      have c1 := (KB.out.cell (p := ⟨b1, o1 + k, none⟩) l1).trans C1
      have c2 := (KB.out.cell (p := ⟨b2, o2 + k, none⟩) l2).trans C2
      have c3 := (KB.out.cell (p := ⟨b3, o3 + k, none⟩) l3).trans C3
      replace C1 := Lib.hid C1
      replace C2 := Lib.hid C2
      replace C3 := Lib.hid C3
      have i0 : (0 : Int) ≤ (k : Int) := by omega
      have i1 : (k : Int) < (len : Int) := by omega
      have i2 : (k : Int) < (len2 : Int) := by omega
      have i3 : (k : Int) < (len3 : Int) := by omega
      have A1 : Hid _ := (KO.out.alloc (.cells #[.int .u8 (y : Int)] 5)).drew
      have A2 : Hid ((wr.alloc (.cells #[.int .u8 (y : Int)] 5)).drew.cell? ⟨wr.heap.size, 0, none⟩ = some (.int .u8 (y : Int))) := (Has.new wr (.cells #[.int .u8 (y : Int)] 5)).one.1
      have A4 : Hid (Below w.heap.size w (wr.alloc (.cells #[.int .u8 (y : Int)] 5)).drew) := below_drewN (KB.out.alloc KB.out.size _) 1
      have A3 : Hid (w.heap.size ≤ (wr.alloc (.cells #[.int .u8 (y : Int)] 5)).drew.heap.size) := A4.out.size
      clear KO KB
      go_wp2_with fail
      go_region_held3 (fun wx => wx.cell? ⟨b1, o1 + k, none⟩ = some (.int .u8 (p : Int)) ∧ wx.cell? ⟨b2, o2 + k, none⟩ = some (.int .u8 (q : Int)) ∧ wx.cell? ⟨b3, o3 + k, none⟩ = some (.int .u8 (r : Int))) (go_keep) (first | (refine step_append_byte rfl (.tmp 22) (.tmp 37) rfl w.heap.size _ k _ (by simp [Act.eval]) A1.out wr.heap.size y (by simp [Act.eval]) A2.out (by omega) A3.out ?_; intro v' w' ho hg; have hb := Lib.hid (A4.out.grown hg.out A3.out (fun q hq => (World.ownsRow.lt A1.out q hq).1)); have hO := Lib.hid ho.out; have d1 := (hb.out.cell (p := ⟨b1, o1 + k, none⟩) l1).trans C1.out; have d2 := (hb.out.cell (p := ⟨b2, o2 + k, none⟩) l2).trans C2.out; have d3 := (hb.out.cell (p := ⟨b3, o3 + k, none⟩) l3).trans C3.out; clear ho hg))
      have hO2 : Hid (w'.ownsRow w.heap.size 5 1 v' (k + 1) (vb (Cr.mix (bs.take (k + 1)) (cs.take (k + 1)) (ds.take (k + 1))))) := by
        show World.ownsRow _ _ _ _ _ _ _
        rw [HM.out]
        exact hO.out
      clear hO d1 d2 d3 c1 c2 c3 A1 A2 A3 A4 e1 e2
      go_wp2_with fail
      go_roundw
      case rel => exact ⟨k + 1, by go_num, by omega, hO2, hb⟩
      case measure => simp [intOf]; omega
    · obtain rfl : k = n := by omega
      have KX : Kept w wr _ _ := ⟨KB.out, Sl.owned KO.out (mix_byte _ _ _ (fun x hx => HS.out.facts.1 x (List.mem_of_mem_take hx)) (fun x hx => HT.out.facts.1 x (List.mem_of_mem_take hx)) (fun x hx => HU.out.facts.1 x (List.mem_of_mem_take hx))) (by omega)⟩
      obtain ⟨l, hl⟩ : ∃ l, l = Cr.mix (bs.take k) (cs.take k) (ds.take k) := ⟨_, rfl⟩
      obtain ⟨N, hN⟩ : ∃ N, N = Cr.sum 0 l := ⟨_, rfl⟩
      obtain ⟨A, hA⟩ : ∃ A, A = Cr.sum 0 (bs.take k) := ⟨_, rfl⟩
      obtain ⟨B, hB⟩ : ∃ B, B = Cr.sum 0 (cs.take k) := ⟨_, rfl⟩
      obtain ⟨C, hC⟩ : ∃ C, C = Cr.sum 0 (ds.take k) := ⟨_, rfl⟩
      rw [← hl] at KX
      have l1 : (bs.take k).length = k := by have := HS.out.len.1; rw [List.length_take]; omega
      have l2 : (cs.take k).length = k := by have := HT.out.len.1; rw [List.length_take]; omega
      have l3 : (ds.take k).length = k := by have := HU.out.len.1; rw [List.length_take]; omega
      have hX : A ^^^ B ^^^ C = N := by
        rw [hN, hl, Cr.sum_mix _ _ _ (by omega) (by omega), hA, hB, hC]
      have gA : A < 4294967296 := by rw [hA]; exact Cr.sum_lt 0 _ (by decide) (fun x hx => HS.out.facts.1 x (List.mem_of_mem_take hx))
      have gB : B < 4294967296 := by rw [hB]; exact Cr.sum_lt 0 _ (by decide) (fun x hx => HT.out.facts.1 x (List.mem_of_mem_take hx))
      have gC : C < 4294967296 := by rw [hC]; exact Cr.sum_lt 0 _ (by decide) (fun x hx => HU.out.facts.1 x (List.mem_of_mem_take hx))
      have e1 := u32_xor A B gA gB
      have e2 := u32_xor (A ^^^ B) C (xor_lt32 gA gB) gC
      rw [hX] at e2
      generalize A ^^^ B = AB at *
      have HA := Lib.hid hA
      have HB := Lib.hid hB
      have HC := Lib.hid hC
      have HN := Lib.hid hN
      have S1 := Lib.hid KX.2.drew
      have S2 := Lib.hid ((HS.out.later KB.out).take k n1).drew
      have S3 := Lib.hid ((HT.out.later KB.out).take k n2).drew
      have S4 := Lib.hid ((HU.out.later KB.out).take k n3).drew
      have KX2 := Lib.hid (kept_drew KX)
      clear KO KB hmin hl hA hB hC hN l1 l2 l3 hX gA gB gC
      have i0 : (0 : Int) ≤ (k : Int) := by omega
      have i1 : (k : Int) ≤ (cap : Int) := by omega
      have i2 : (k : Int) ≤ (cap2 : Int) := by omega
      have i3 : (k : Int) ≤ (cap3 : Int) := by omega
      go_wp2_with fail
      go_region_held3 (fun wx => Kept w wx u8 l) (first | assumption | exact kept_drew (by assumption) | go_keep) (first | (go_at_call 10; first | (refine (sum_is u8 l N _ S1.out HN).mono ?_; rintro e w' ⟨rfl, rfl⟩) | (refine (sum_is (.slice a k cap) _ A _ S2.out HA).mono ?_; rintro e w' ⟨rfl, rfl⟩) | (refine (sum_is (.slice b k cap2) _ B _ S3.out HB).mono ?_; rintro e w' ⟨rfl, rfl⟩) | (refine (sum_is (.slice c k cap3) _ C _ S4.out HC).mono ?_; rintro e w' ⟨rfl, rfl⟩)) | (go_at_call 9; refine (lives_any _).mono ?_; rintro e w' ⟨rfl, hb⟩; have hk' := kept_below KX2.out hb))
      go_wp2
      go_ret
      exact ⟨rfl, hk'.1⟩

set_option maxRecDepth 100000 in
theorem crcMixed_lifted (os : Os) (started : os.Started) (H : Type) (enc : TypeId × Value → H) :
    ReturnsInHanded {} Try.checked os 7 .any (Rows.crcMixedSpec.pre6 enc Try.prog Try.f7 Rows.crcMixedRow.domain false) (Rows.crcMixedSpec.post enc Try.prog Try.f7 false true false false) := by
  refine returnsInHanded_of_change_sized (C := Try.checked) Try.own started (by kernel_rfl) Try.func7
    (ChangeSpec.witness6 (enc := enc) (C := Try.checked) false ⟨#[], #[.slice none 0 0, .slice none 0 0, .slice none 0 0], []⟩ 8 (by kernel_rfl) (by kernel_rfl) (by kernel_rfl) (by kernel_rfl)) ?_
  intro W base args ds gs before hval0 hW _ hsz0 _
  have hval : ∀ (j : Nat) t v, Try.f7.params[j]? = some t → args[j]? = some v → Value.okWide Try.prog W .any base t v := hval0
  have hsz : (DataW.weightsEach Try.prog (Try.f7.params.toList ++ Rows.crcMixedSpec.plain.varTypes Try.prog) (ds ++ gs)).all (· ≤ reachBytes) = true := hsz0
  have hW' := hW
  obtain ⟨p, q, hA0, hV, rfl, hfz, hnd⟩ := hW
  have hA : DataW.TrodAll enc Try.prog W 0 (fun _ => true) true Try.f7.params.toList args.toList ds p := hA0
  rw [Try.params7] at hA hval hsz
  obtain ⟨v0, vs0, d0, ds0, p0, q0, hargs, rfl, rfl, h0, r0⟩ := trodAll_cons hA
  obtain ⟨v1, vs1, d1, ds1, p1, q1, rfl, rfl, rfl, h1, r1⟩ := trodAll_cons r0
  obtain ⟨v2, vs2, d2, ds2, p2, q2, rfl, rfl, rfl, h2, r2⟩ := trodAll_cons r1
  obtain ⟨rfl, rfl, rfl⟩ := trodAll_nil r2
  obtain rfl : args = #[v0, v1, v2] := by cases args; simp_all
  obtain ⟨rfl, rfl⟩ := trodVars_none hV
  have k0 := h0
  have lt0 : ∀ x ∈ p0, x.block < W.heap.size := by obtain ⟨m, hm⟩ := k0; exact DataW.trod_lt m _ _ _ hm
  have w0 : ∀ n ∈ d0.weights Try.prog 23, n ≤ reachBytes := fun n hn => by simpa using List.all_eq_true.1 hsz n (DataW.weights_mem_each (j := 0) rfl rfl n hn)
  obtain ⟨bs0, sl0, ln0⟩ := bytes_open (hval 0 23 v0 rfl rfl) h0 w0
  have cp0 := bytes_cap (hval 0 23 v0 rfl rfl) h0
  have k1 := h1
  have lt1 : ∀ x ∈ p1, x.block < W.heap.size := by obtain ⟨m, hm⟩ := k1; exact DataW.trod_lt m _ _ _ hm
  have w1 : ∀ n ∈ d1.weights Try.prog 23, n ≤ reachBytes := fun n hn => by simpa using List.all_eq_true.1 hsz n (DataW.weights_mem_each (j := 1) rfl rfl n hn)
  obtain ⟨bs1, sl1, ln1⟩ := bytes_open (hval 1 23 v1 rfl rfl) h1 w1
  have cp1 := bytes_cap (hval 1 23 v1 rfl rfl) h1
  have k2 := h2
  have lt2 : ∀ x ∈ p2, x.block < W.heap.size := by obtain ⟨m, hm⟩ := k2; exact DataW.trod_lt m _ _ _ hm
  have w2 : ∀ n ∈ d2.weights Try.prog 23, n ≤ reachBytes := fun n hn => by simpa using List.all_eq_true.1 hsz n (DataW.weights_mem_each (j := 2) rfl rfl n hn)
  obtain ⟨bs2, sl2, ln2⟩ := bytes_open (hval 2 23 v2 rfl rfl) h2 w2
  have cp2 := bytes_cap (hval 2 23 v2 rfl rfl) h2
  clear hA0 hval0 hsz0
  refine (crcMixed_walk v0 bs0 v1 bs1 v2 bs2 W sl0 ln0 cp0 sl1 ln1 cp1 sl2 ln2 cp2).mono fun e W' ⟨he, bel⟩ => ?_
  subst he
  exact ⟨_, rfl, _, _, _, [], _, [], hW', trodAll_mk1 (shut_bool Try.underlying4 _), (trodAll_cons_mk (Below.trod Try.laidOut (by kernel_rfl) (of_decide_eq_true (by kernel_rfl)) k0 bel lt0) (trodAll_cons_mk (Below.trod Try.laidOut (by kernel_rfl) (of_decide_eq_true (by kernel_rfl)) k1 bel lt1) (trodAll_cons_mk (Below.trod Try.laidOut (by kernel_rfl) (of_decide_eq_true (by kernel_rfl)) k2 bel lt2) trodAll_mk0))), rfl, bel.frame _, fun h => by cases h⟩

theorem crcMixed_proved : Rows.CrcMixedSaid :=
  OpenClaim.holds_of_wide 7 Try.f7 rfl rfl rfl rfl rfl rfl rfl ⟨rfl, rfl, rfl, rfl, rfl⟩ rfl rfl rfl rfl rfl (by kernel_rfl) Try.func7 (by kernel_rfl)
    (of_decide_eq_true (by kernel_rfl)) (by unfold Func.isWrapper; rw [if_neg (of_decide_eq_false (by kernel_rfl))]; exact ⟨rfl, rfl⟩)
    (fun os started H enc _ => crcMixed_lifted os started H enc)
end Go.Proofs.Ytbegehgfdjmibaa
