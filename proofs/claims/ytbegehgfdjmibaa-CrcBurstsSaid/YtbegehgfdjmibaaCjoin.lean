/- Contracts of times, by, Join and the document's Join. -/
import Derived.Test.YtbegehgfdjmibaaCmore
namespace Go.Proofs.Ytbegehgfdjmibaa
open Go.RowKit

theorem shr_bit (c i : Nat) : bits BinOp.and IntKind.u32 ((c : Int) / 2 ^ i) 1 = ((c.testBit i).toNat : Int) := by
  have e : ((c : Int) / 2 ^ i) = ((c / 2 ^ i : Nat) : Int) := by simp
  rw [e, u32_and1, Nat.testBit_eq_decide_div_mod_eq]
  rcases Nat.mod_two_eq_zero_or_one (c / 2 ^ i) with h | h <;> simp [h]

theorem tells_eq {a b : Nat} (h : a = b) : Ending.returned (.int .u32 (a : Int)) = .returned (.int .u32 (b : Int)) := by rw [h]

set_option maxHeartbeats 400000 in
theorem times_any (c far K : Nat) (hc : c < 4294967296) (hf : Hid (far = Cr.stn K Cr.one)) (w : World) :
    Calls Try.prog 21 #[.int .u32 (c : Int), .int .u32 (far : Int)] w (Tells (Cr.stn K c) w) := by
  have hz := Lib.hid (show 0 = Cr.stn K (Cr.part c 0) by rw [Cr.part_zero c hc, Cr.stn_zero])
  go_enter Try.func21, Try.ntmps21
  go_wp2
  go_loop [1, 5, 7] (fun f p i => ∃ k F T : Nat, k ≤ 32 ∧ f = .int .u32 (F : Int) ∧ p = .int .u32 (T : Int) ∧ i = .int .i64 k ∧ Hid (F = Cr.stn (K + k) Cr.one) ∧ Hid (T = Cr.stn K (Cr.part c k))) (fun _ _ i => 32 - (intOf i).toNat)
  case atStart => exact ⟨0, far, 0, Nat.zero_le _, rfl, rfl, rfl, hf, hz⟩
  case round =>
    obtain ⟨k, F, T, hk, rfl, rfl, rfl, hF, hT⟩ := hrel
    have hF2 : F < 4294967296 := by rw [hF.out]; exact Cr.stn_lt _ _ (by decide)
    by_cases hlt : k < 32
    · have hT2 : T < 4294967296 := by
        rw [hT.out]
        refine Cr.stn_lt _ _ (Nat.lt_of_le_of_lt ?_ hc)
        unfold Cr.part
        exact Nat.div_mul_le_self _ _
      have hb := shr_bit c (31 - k)
      have hts := Lib.hid (Cr.times_succ K c k hlt)
      have he31 : (31 - (k : Int)).toNat = 31 - k := by omega
      have hx := u32_xor T F hT2 hF2
      have hfs : Hid (Cr.st F = Cr.stn (K + (k + 1)) Cr.one) := by show _ = _; rw [← Nat.add_assoc, Cr.stn_succ, hF.out]
      cases hbit : c.testBit (31 - k)
      · rw [hbit] at hb hts
        have hd : (bits BinOp.and IntKind.u32 ((c : Int) / 2 ^ (31 - k)) 1 == 1) = false := by rw [hb]; rfl
        clear hb hx
        go_wp2_with (go_at_call 19; refine (step_any F hF2 _).mono ?_; rintro e w2 ⟨rfl, rfl⟩)
        refine ⟨⟨k + 1, Cr.st F, T, by omega, rfl, rfl, by go_num, hfs, ?_⟩, ?_⟩
        · show _ = _
          rw [hts.out, hT.out, if_neg (by decide), Nat.xor_zero]
        · simp [intOf]; omega
      · rw [hbit] at hb hts
        have hd : (bits BinOp.and IntKind.u32 ((c : Int) / 2 ^ (31 - k)) 1 == 1) = true := by rw [hb]; rfl
        clear hb
        go_wp2_with (go_at_call 19; refine (step_any F hF2 _).mono ?_; rintro e w2 ⟨rfl, rfl⟩)
        refine ⟨⟨k + 1, Cr.st F, T ^^^ F, by omega, rfl, rfl, by go_num, hfs, ?_⟩, ?_⟩
        · show _ = _
          rw [hts.out, hT.out, hF.out]; simp
        · simp [intOf]; omega
    · obtain rfl : k = 32 := by omega
      go_wp2
      go_ret
      exact ⟨tells_eq (by rw [hT.out, Cr.part_all]), rfl⟩

theorem times_is (c far K n : Nat) (hc : c < 4294967296) (hf : Hid (far = Cr.stn K Cr.one)) (hn : Hid (n = Cr.stn K c)) (w : World) :
    Calls Try.prog 21 #[.int .u32 (c : Int), .int .u32 (far : Int)] w (Tells n w) := hn.out ▸ times_any c far K hc hf w

/-- A number in a box. -/
def numObj (n : Nat) : Obj := .cells #[.int .u32 (n : Int)] 22 (0, 0)

/-- What by leaves. -/
def ByPost (far : Nat) (w : World) (e : Ending) (w' : World) : Prop :=
  ∃ g : Nat, e = .returned (.func (.func 20) #[] #[.pointer (some ⟨g, 0, none⟩)]) ∧ w.heap.size ≤ g ∧ Has w' g (numObj far) ∧ Below w.heap.size w w'

set_option maxHeartbeats 400000 in
theorem by_any (far : Nat) (w : World) :
    Calls Try.prog 18 #[.int .u32 (far : Int)] w (ByPost far w) := by
  go_enter Try.func18, Try.ntmps18
  go_wp2
  go_ret
  exact ⟨_, rfl, Nat.le_refl _, Has.new w (numObj far), below1 w (numObj far)⟩

set_option maxHeartbeats 400000 in
theorem by1_any (g far K c n : Nat) (hc : c < 4294967296) (hf : Hid (far = Cr.stn K Cr.one)) (hn : Hid (n = Cr.stn K c)) (w : World) (hg : Has w g (numObj far)) :
    Calls Try.prog 20 (#[.int .u32 (c : Int)] ++ #[.pointer (some ⟨g, 0, none⟩)]) w (Tells n w) := by
  show Calls Try.prog 20 #[.int .u32 (c : Int), .pointer (some ⟨g, 0, none⟩)] w _
  obtain ⟨hcell, hfr⟩ := Has.one hg
  go_enter Try.func20, Try.ntmps20
  go_wp2_with (go_at_call 21; refine (times_is c far K n hc hf hn _).mono ?_; rintro e w2 ⟨rfl, rfl⟩)
  go_ret
  exact ⟨rfl, rfl⟩

theorem by1_is (g far K c n : Nat) (hf : Hid (far = Cr.stn K Cr.one)) (hn : Hid (n = Cr.stn K c)) (w : World) (hg : Has w g (numObj far)) (hc : c < 4294967296) :
    Calls Try.prog 20 #[.int .u32 (c : Int), .pointer (some ⟨g, 0, none⟩)] w (Tells n w) := by1_any g far K c n hc hf hn w hg
theorem by1_one (g far K : Nat) (hf : Hid (far = Cr.stn K Cr.one)) (w : World) (hg : Has w g (numObj far)) :
    Calls Try.prog 20 #[.int .u32 2147483648, .pointer (some ⟨g, 0, none⟩)] w (Tells far w) := by1_any g far K Cr.one far (by decide) hf hf w hg

set_option maxHeartbeats 400000 in
theorem join_bad (a b : Nat) (n : Int) (hn : n < 0 ∨ 2147483647 < n) (w : World) :
    Calls Try.prog 14 #[.int .u32 (a : Int), .int .u32 (b : Int), .int .i64 n] w fun e w' => e = .returned (.tuple #[.int .u32 0, .int .i64 2]) ∧ w = w' := by
  go_enter Try.func14, Try.ntmps14
  rcases hn with hn | hn
  · go_wp2
    go_ret2
    exact ⟨rfl, rfl⟩
  · go_wp2
    go_ret2
    exact ⟨rfl, rfl⟩

theorem eight_one (w : World) : Calls Try.prog 16 #[.int .u32 2147483648] w (Tells (Cr.stn 8 Cr.one) w) := eight_any Cr.one (by decide) w

/-- What Join tells. -/
def Joined (n : Nat) (w : World) (e : Ending) (w' : World) : Prop := e = .returned (.tuple #[.int .u32 (n : Int), .int .i64 0]) ∧ Below w.heap.size w w'

set_option maxHeartbeats 1000000 in
theorem join_ok (a b n : Nat) (hn : n ≤ 2147483647) (ha : a < 4294967296) (hb : b < 4294967296) (w : World) :
    Calls Try.prog 14 #[.int .u32 (a : Int), .int .u32 (b : Int), .int .i64 (n : Int)] w (Joined (Cr.stn (8 * n) a ^^^ b) w) := by
  have h1 : (n : Int) ≤ 2147483647 := by omega
  have h0 : ¬ (n : Int) < 0 := by omega
  obtain ⟨F, hF⟩ : ∃ F, F = Cr.stn 8 Cr.one := ⟨_, rfl⟩
  go_enter Try.func14, Try.ntmps14
  go_wp2_with (go_at_call 16; refine (eight_one _).mono ?_; rintro e w2 ⟨rfl, rfl⟩)
  rw [← hF]
  have HF := Lib.hid hF
  clear hF
  refine (by_any F _).mono ?_
  rintro e w1 ⟨g, rfl, hg0, hH, hB⟩
  have HH := Lib.hid hH
  have HB := Lib.hid hB
  clear hH hB
  go_wp2_with fail
  go_loopw [0, 2, 8] (fun s0 s2 s8 wr => ∃ A m K F g : Nat, s0 = .int .u32 (A : Int) ∧ s2 = .int .i64 (m : Int) ∧ s8 = .func (.func 20) #[] #[.pointer (some ⟨g, 0, none⟩)] ∧ A < 4294967296 ∧ m ≤ 2147483647 ∧ w.heap.size ≤ g ∧
    Hid (F = Cr.stn K Cr.one) ∧ Hid (Cr.stn (K * m) A = Cr.stn (8 * n) a) ∧ Hid (Has wr g (numObj F)) ∧ Hid (Below w.heap.size w wr)) (fun _ s _ _ => (intOf s).toNat)
  case atStart => exact ⟨a, n, 8, F, g, rfl, rfl, rfl, ha, hn, hg0, HF, rfl, HH, HB⟩
  case round =>
    obtain ⟨A, m, K, F, g, rfl, rfl, rfl, hA, hm, hg, KF, KA, KH, KB⟩ := hrel
    by_cases hm0 : m = 0
    · subst hm0
      have hx := u32_xor A b hA hb
      have hA2 : Hid (A = Cr.stn (8 * n) a) := KA.out
      go_wp2
      go_ret2
      exact ⟨by rw [hA2.out]; rfl, KB.out⟩
    · have hF1 : F < 4294967296 := by rw [KF.out]; exact Cr.stn_lt _ _ (by decide)
      by_cases hodd : m % 2 = 1
      · have hd : ((m : Int) % 2 == 1) = true := by rw [beq_iff_eq]; omega
        go_wp2_with fail
        refine (by1_is g F K A _ KF rfl wr KH.out hA).mono ?_
        rintro e w2 ⟨rfl, rfl⟩
        obtain ⟨A', hA'⟩ : ∃ A', A' = Cr.stn K A := ⟨_, rfl⟩
        have hA2 : A' < 4294967296 := by rw [hA']; exact Cr.stn_lt _ _ hA
        have KA2 : Hid (Cr.stn ((K + K) * (m / 2)) A' = Cr.stn (8 * n) a) := by
          show _ = _
          rw [← KA.out, hA', ← Cr.stn_add]
          congr 1
          have e : m = 1 + 2 * (m / 2) := by omega
          conv => rhs; rw [e]
          rw [Nat.mul_add, Nat.mul_one, ← Nat.mul_assoc, Nat.mul_two]
        rw [← hA']
        clear hA' KA hd
        go_wp2_with fail
        refine (by1_one g F K KF wr KH.out).mono ?_
        rintro e w2 ⟨rfl, rfl⟩
        go_wp2_with fail
        refine (by1_is g F K F (Cr.stn (K + K) Cr.one) KF (by show _ = _; rw [Cr.stn_add, KF.out]) wr KH.out hF1).mono ?_
        rintro e w2 ⟨rfl, rfl⟩
        obtain ⟨F', hF'⟩ : ∃ F', F' = Cr.stn (K + K) Cr.one := ⟨_, rfl⟩
        rw [← hF']
        have KF' := Lib.hid hF'
        clear hF'
        go_wp2_with fail
        refine (by_any F' _).mono ?_
        rintro e w3 ⟨g3, rfl, hg3, hH3, hB3⟩
        have KH3 := Lib.hid hH3
        have KB3 := Lib.hid (KB.out.trans (hB3.mono KB.out.size))
        clear hH3 hB3
        go_wp2_with fail
        refine ⟨⟨A', m / 2, K + K, F', g3, rfl, by go_num, rfl, hA2, by omega, Nat.le_trans hg (Nat.le_trans (Nat.le_of_lt KH.out.lt) hg3), KF', KA2, KH3, KB3⟩, ?_⟩
        simp [intOf]; omega
      · have hd : ((m : Int) % 2 == 1) = false := by rw [beq_eq_false_iff_ne]; omega
        have KA2 : Hid (Cr.stn ((K + K) * (m / 2)) A = Cr.stn (8 * n) a) := by
          show _ = _
          rw [← KA.out]
          congr 1
          have e : m = 2 * (m / 2) := by omega
          conv => rhs; rw [e]
          rw [← Nat.mul_assoc, Nat.mul_two]
        clear KA
        go_wp2_with fail
        refine (by1_one g F K KF wr KH.out).mono ?_
        rintro e w2 ⟨rfl, rfl⟩
        go_wp2_with fail
        refine (by1_is g F K F (Cr.stn (K + K) Cr.one) KF (by show _ = _; rw [Cr.stn_add, KF.out]) wr KH.out hF1).mono ?_
        rintro e w2 ⟨rfl, rfl⟩
        obtain ⟨F', hF'⟩ : ∃ F', F' = Cr.stn (K + K) Cr.one := ⟨_, rfl⟩
        rw [← hF']
        have KF' := Lib.hid hF'
        clear hF'
        go_wp2_with fail
        refine (by_any F' _).mono ?_
        rintro e w3 ⟨g3, rfl, hg3, hH3, hB3⟩
        have KH3 := Lib.hid hH3
        have KB3 := Lib.hid (KB.out.trans (hB3.mono KB.out.size))
        clear hH3 hB3
        go_wp2_with fail
        refine ⟨⟨A, m / 2, K + K, F', g3, rfl, by go_num, rfl, hA, by omega, Nat.le_trans hg (Nat.le_trans (Nat.le_of_lt KH.out.lt) hg3), KF', KA2, KH3, KB3⟩, ?_⟩
        simp [intOf]; omega

end Go.Proofs.Ytbegehgfdjmibaa
