/- Contracts of the document's Least and Check. -/
import Derived.Test.YtedbonnejgpjeaaLru
namespace Go.Proofs.Ytedbonnejgpjeaa
open Go.RowKit

namespace Lm
/-- What the best lengths cost. -/
def leastN (S : List Nat) (M : Nat) : Nat := if S.length < 2 then sm (fun x => x) S else sm (fun x => x) ((lvl (fun x => x) (fun x y => x + y) S (M - 1)).take (2 * S.length - 2))
/-- The coins behind so many levels. -/
def cns (S : List Nat) : Nat → List Nat
  | 0 => []
  | k + 1 => lvl (fun x => x) (fun x y => x + y) S k
theorem cns_succ (S : List Nat) (k : Nat) : cns S (k + 1) = mrg (fun x => x) S (prs (fun x y => x + y) (cns S k)) := by
  cases k with
  | zero => simp only [cns, lvl, prs, mrg_nil_right]
  | succ k => rfl
theorem nprs_bound (ts : List Nat) (B : Nat) (h : ∀ t ∈ ts, t ≤ B) : ∀ t ∈ prs (fun x y => x + y) ts, t ≤ 2 * B := by
  intro t ht
  obtain ⟨q, hq⟩ := List.getElem?_of_mem ht
  obtain ⟨x, y, h1, h2, rfl⟩ := prs_get _ _ _ _ hq
  have g1 := h x (List.mem_of_getElem? h1)
  have g2 := h y (List.mem_of_getElem? h2)
  show x + y ≤ _
  omega
theorem nlvl_bound (ts : List Nat) (B : Nat) (h : ∀ t ∈ ts, t ≤ B) (j : Nat) : ∀ t ∈ lvl (fun x => x) (fun x y => x + y) ts j, t ≤ 2 ^ j * B := by
  induction j with
  | zero => intro t ht; rw [Nat.pow_zero, Nat.one_mul]; exact h t ht
  | succ j ih =>
    intro t ht
    rcases List.mem_append.1 ((mrg_perm (fun x => x) _ _).mem_iff.1 ht) with ht | ht
    · have h1 := h t ht
      have : B ≤ 2 ^ (j + 1) * B := Nat.le_mul_of_pos_left _ (Nat.two_pow_pos _)
      omega
    · have := nprs_bound _ _ ih t ht
      rw [Nat.pow_succ, Nat.mul_comm (2 ^ j) 2, Nat.mul_assoc]; exact this
theorem cns_bound (S : List Nat) (h : ∀ t ∈ S, t ≤ 4294967295) (k : Nat) (hk : k ≤ 15) : ∀ (i x : Nat), (cns S k)[i]? = some x → x ≤ 70368744161280 := by
  intro i x hx
  cases k with
  | zero => simp [cns] at hx
  | succ k =>
    have h1 := nlvl_bound S _ h k x (List.mem_of_getElem? hx)
    have h2 : 2 ^ k ≤ 2 ^ 14 := Nat.pow_le_pow_right (by omega) (by omega)
    have h3 := Nat.mul_le_mul_right 4294967295 h2
    omega
theorem cns_length (S : List Nat) (k : Nat) : (cns S k).length ≤ 2 * S.length := by
  cases k with
  | zero => simp [cns]
  | succ k => exact lvl_le _ _ _ _
theorem wts_bound (fs : List Nat) (h : ∀ i, i < fs.length → fs[i]?.getD 0 ≤ 4294967295) : ∀ t ∈ wts fs fs.length, t ≤ 4294967295 := by
  intro t ht
  unfold wts at ht
  obtain ⟨p, hp, rfl⟩ := List.mem_map.1 ((isrt_perm _ _).mem_iff.1 ht)
  have := (usd_mem fs fs.length p).1 hp
  rw [this.2.1]; exact h _ this.1
theorem sm_bound (S : List Nat) (B : Nat) (h : ∀ (i x : Nat), S[i]? = some x → x ≤ B) (k : Nat) : sm (fun x => x) (S.take k) ≤ k * B := by
  induction k with
  | zero => simp [sm]
  | succ k ih =>
    rw [List.take_add_one, sm_append, Nat.succ_mul]
    cases e : S[k]? with
    | none => show _ + 0 ≤ _; omega
    | some x => have h1 := h k x e; show _ + (x + 0) ≤ _; omega
theorem sm_step (S : List Nat) (k x : Nat) (h : S[k]? = some x) : sm (fun x => x) (S.take (k + 1)) = sm (fun x => x) (S.take k) + x := by
  rw [List.take_add_one, sm_append, h]; simp [sm]
theorem nprs_step (S : List Nat) (q x y : Nat) (h1 : S[2 * q]? = some x) (h2 : S[2 * q + 1]? = some y) : prs (fun x y => x + y) (S.take (2 * (q + 1))) = prs (fun x y => x + y) (S.take (2 * q)) ++ [x + y] := by
  have hl := (List.getElem?_eq_some_iff.1 h2).1
  rw [show 2 * (q + 1) = 2 * q + 1 + 1 by omega, List.take_add_one, List.take_add_one, h1, h2, List.append_assoc]
  exact prs_snoc _ x y _ (by rw [List.length_take]; omega)
end Lm

set_option maxHeartbeats 4000000 in
theorem rleast_any (zs : List Int) (s : Value) (M : Nat) (w : World) (hz : Zl w s zs) (hv : Nums zs) (hM : 1 ≤ M) (hM2 : M ≤ 15) (hf : (Lm.wts (nat zs) zs.length).length ≤ 2 ^ M) :
    Calls Try.prog 15 #[s, .int .i64 (M : Int)] w fun e w' => e = .returned (.int .i64 (Lm.leastN (Lm.wts (nat zs) zs.length) M : Int)) ∧ Below w.heap.size w w' := by
  have HU := rused_any zs s w hz hv
  have hbd : ∀ t ∈ Lm.wts (nat zs) zs.length, t ≤ 4294967295 := by
    have := Lm.wts_bound (nat zs) fun i hi => by rw [nat_length] at hi; rw [nat_get]; have := hv.2.2 i hi; omega
    rwa [nat_length] at this
  have hl288 : (Lm.wts (nat zs) zs.length).length ≤ 288 := by rw [Lm.wts_length]; have := Lm.usd_length (nat zs) zs.length; have := hv.2.1; omega
  obtain ⟨a, len, cap, rfl, hrest⟩ := hz
  clear hrest
  obtain ⟨S, hS⟩ : ∃ S, S = Lm.wts (nat zs) zs.length := ⟨_, rfl⟩
  rw [← hS] at HU hbd hl288 hf ⊢
  obtain ⟨n, hn⟩ : ∃ n, n = S.length := ⟨_, rfl⟩
  rw [← hn] at hl288 hf
  have HN := Lib.hid hn
  have HF := Lib.hid hf
  have HBD := Lib.hid hbd
  obtain ⟨L, hL⟩ : ∃ L, L = Lm.leastN S M := ⟨_, rfl⟩
  rw [← hL]
  have HL := Lib.hid (fun _ : Unit => hL)
  clear hv hS hn hf hbd hL
  go_enter Try.func15, Try.ntmps15
  go_wp2_with fail
  refine HU.mono ?_
  clear HU
  rintro e w1 ⟨v1, rfl, hN1, hb1⟩
  have P1 := Lib.hid hN1
  have B1 := Lib.hid hb1
  obtain ⟨a1, c1, rfl, hs1, hs2⟩ := hN1.shape
  clear hs1 hs2
  rw [show S.length = n from HN.out.symm] at P1 ⊢
  clear hN1 hb1
  by_cases h2 : n < 2
  · have HLE : Hid (Unit → L = Lm.sm (fun x => x) (S.take n)) := fun _ => by
      rw [HL.out (), List.take_of_length_le (by rw [HN.out]; exact Nat.le_refl _)]; unfold Lm.leastN; rw [if_pos (by rw [← HN.out]; exact h2)]
    go_wp2_with fail
    go_loopw [6, 7] (fun s6 s7 wr => ∃ k u : Nat, k ≤ n ∧ s7 = .int .i64 (k : Int) ∧ s6 = .int .i64 (u : Int) ∧ Hid (Unit → u = Lm.sm (fun x => x) (S.take k)) ∧ u ≤ k * 4294967295 ∧ wr = w1) (fun _ s _ => n - (intOf s).toNat)
    case atStart => exact ⟨0, 0, Nat.zero_le _, rfl, rfl, fun _ => rfl, by omega, rfl⟩
    case round =>
      obtain ⟨k, u, hk, rfl, rfl, KU, hub, rfl⟩ := hrel
      by_cases hlt : k < n
      · obtain ⟨b, off, x, rfl, hb, hx, hc⟩ := P1.out.get k hlt
        have hxb := HBD.out x (List.mem_of_getElem? hx)
        have K2 : Hid (Unit → u + x = Lm.sm (fun x => x) (S.take (k + 1))) := fun _ => by rw [Lm.sm_step S k x hx, ← KU.out ()]
        have hub2 : u ≤ 4294967295 := by omega
        have hub3 : u + x ≤ (k + 1) * 4294967295 := by omega
        clear hx
        go_wp2_with fail
        go_roundw
        case rel => exact ⟨k + 1, u + x, by omega, by go_num, by go_num, K2, hub3, by first | rfl | trivial⟩
        case measure => simp [intOf]; omega
      · obtain rfl : k = n := by omega
        go_wp2
        go_ret
        exact ⟨by rw [HLE.out (), KU.out ()]; rfl, B1.out⟩
  · have HLE : Hid (Unit → L = Lm.sm (fun x => x) ((Lm.cns S M).take (2 * n - 2))) := fun _ => by
      obtain ⟨J, rfl⟩ : ∃ J, M = J + 1 := ⟨M - 1, by omega⟩
      rw [HL.out ()]; unfold Lm.leastN; rw [if_neg (by rw [← HN.out]; exact h2), ← HN.out]; rfl
    have HEN : Hid (Unit → 2 * n - 2 ≤ (Lm.cns S M).length) := fun _ => by
      obtain ⟨J, rfl⟩ : ∃ J, M = J + 1 := ⟨M - 1, by omega⟩
      have := Lm.lvl_enough (fun x => x) (fun x y => x + y) S (by rw [← HN.out]; omega) J (by rw [← HN.out]; exact HF.out)
      rw [← HN.out] at this
      exact this
    go_wp2_with fail
    go_loopw [8, 9] (fun s8 s9 wr => ∃ (k m cap3 : Nat) (u : Option Addr), k ≤ M ∧ s9 = .int .i64 (k : Int) ∧ s8 = .slice u m cap3 ∧ m ≤ 576 ∧ Hid (Unit → m = (Lm.cns S k).length) ∧ Hid (Nl wr (.slice u m cap3) (Lm.cns S k)) ∧ Hid (Below w.heap.size w wr) ∧ Hid (Below w1.heap.size w1 wr)) (fun _ s _ => M - (intOf s).toNat)
    case atStart => exact ⟨0, 0, 0, none, Nat.zero_le _, rfl, rfl, by omega, fun _ => rfl, Nl.nil _, B1, Below.refl _ _⟩
    case round =>
      obtain ⟨k, m, cap3, u, hk, rfl, rfl, hm, KM, KN, KB, KB1⟩ := hrel
      by_cases hlt : k < M
      · obtain ⟨W0, rfl⟩ : ∃ W0, W0 = wr := ⟨wr, rfl⟩
        go_wp2_with fail
        go_loopw [10, 11] (fun s10 s11 wx => ∃ (q c pn pc : Nat) (pu : Option Addr), 2 * q ≤ m ∧ s11 = .int .i64 (c : Int) ∧ s10 = .slice pu pn pc ∧ Hid (c = 2 * q) ∧ pn ≤ 288 ∧ Hid (pn = q) ∧ Hid (Io W0.heap.size wx (.slice pu pn pc) (Lm.prs (fun x y => x + y) ((Lm.cns S k).take (2 * q)))) ∧ Hid (Below W0.heap.size W0 wx)) (fun _ s _ => m + 2 - (intOf s).toNat)
        case atStart => exact ⟨0, 0, 0, 0, none, by omega, rfl, rfl, rfl, by omega, rfl, Io.nil _ _, Below.refl _ _⟩
        case round =>
          obtain ⟨q, c, pn, pc, pu, hq, rfl, rfl, KC, hpn, KPN, KP, KX⟩ := hrel
          have hc : c = 2 * q := KC.out
          by_cases hq2 : c + 1 < m
          · obtain ⟨b, off, x, rfl, hb, hx, hcx⟩ := KN.out.get c (by omega)
            obtain ⟨b', off', y, e', _, hy, hcy⟩ := KN.out.get (c + 1) (by omega)
            cases e'
            have gx := (KX.out.cell (p := ⟨b, off + c, none⟩) hb).trans hcx
            have gy := (KX.out.cell (p := ⟨b, off + (c + 1), none⟩) hb).trans hcy
            have bx := Lm.cns_bound S HBD.out k (by omega) c x hx
            have by' := Lm.cns_bound S HBD.out k (by omega) (c + 1) y hy
            have hstep := Lm.nprs_step (Lm.cns S k) q x y (by rw [← hc]; exact hx) (by rw [← hc]; exact hy)
            obtain ⟨z, hz⟩ : ∃ z, z = x + y := ⟨_, rfl⟩
            obtain ⟨d, hd⟩ : ∃ d, d = c + 1 := ⟨_, rfl⟩
            rw [← hz] at hstep
            rw [← hd] at gy
            have hz2 : (x : Int) + (y : Int) = (z : Int) := by omega
            have hd2 : (c : Int) + 1 = (d : Int) := by omega
            have hdm : d < m := by omega
            have hcm : c < m := by omega
            have hpl : (Lm.prs (fun x y => x + y) ((Lm.cns S k).take (2 * q))).length = pn := by rw [Lm.prs_length, List.length_take, KPN.out]; have := KM.out (); omega
            obtain ⟨g', cap', w2, hrun, hO, hB2⟩ := Io.more (w := W0) (wr := wr.drew) (KP.out.stays ((Below.refl _ wr).drew)) (KX.out.drew) z (by rw [hpl]; omega)
            rw [hpl] at hrun hO
            have HSTEP := Lib.hid (fun _ : Unit => hstep)
            have HRUN : Hid ((Builtin.append_ #[22, 22] 22 #[.slice pu pn pc, .slice (some ⟨wr.heap.size, 0, none⟩) 1 1]).run Try.prog ((wr.alloc (.cells #[.int .i64 (z : Int)] 3)).drew) = .ok (.slice (some ⟨g', 0, none⟩) (pn + 1) cap') w2) := hrun
            have HB2 := Lib.hid hB2
            have HD := Lib.hid hd
            have qx := (hB2.cell (p := ⟨b, off + c, none⟩) hb).trans hcx
            have qy := (hB2.cell (p := ⟨b, off + (c + 1), none⟩) hb).trans hcy
            rw [← hd] at qy
            have NN : Hid (pn + 1 = q + 1) := by show _ = _; rw [KPN.out]
            have hq3 : 2 * (q + 1) ≤ m := by omega
            have hpn2 : pn + 1 ≤ 288 := by have := KPN.out; omega
            clear hx hy hstep hz hd hrun hB2 hpl KP KX hcx hcy hc KPN
            have hwz : Value.int .i64 (IntKind.i64.wrap (z : Int)) = Value.int .i64 (z : Int) := by rw [IntWalk.i64_in _ (by omega)]
            have hwd : IntKind.i64.wrap (d : Int) = (d : Int) := IntWalk.i64_in _ (by omega)
            go_wp2_with fail
            go_region_held3 (fun wx => wx.cell? ⟨b, off + c, none⟩ = some (.int .i64 (x : Int)) ∧ wx.cell? ⟨b, off + d, none⟩ = some (.int .i64 (y : Int))) (go_keep) (first | (refine step_append_known rfl (.tmp 44) (.tmp 55) 22 rfl _ _ _ w2 (by simp [Act.eval]) (by simp [Act.eval]) HRUN.out ?_))
            clear hwz hwd qx qy gx gy hz2
            go_wp2_with fail
            go_roundw
            case rel => exact ⟨q + 1, c + 2, _, _, _, hq3, by go_num, rfl, by show _ = _; have := KC.out; omega, hpn2, NN, by rw [HSTEP.out ()]; exact hO, HB2⟩
            case measure => simp [intOf]; omega
          · have hmx : Hid (Unit → (Lm.cns S k).take (2 * q) = (Lm.cns S k) ∨ (Lm.cns S k).length = 2 * q + 1) := fun _ => by
              have h1 := KM.out ()
              by_cases e : m = 2 * q
              · exact .inl (List.take_of_length_le (by omega))
              · exact .inr (by omega)
            have hprs : Lm.prs (fun x y => x + y) ((Lm.cns S k).take (2 * q)) = Lm.prs (fun x y => x + y) (Lm.cns S k) := by
              rw [← Lm.prs_take, List.take_of_length_le]
              rw [Lm.prs_length]
              rcases hmx.out () with h | h
              · have := congrArg List.length h; rw [List.length_take] at this; omega
              · omega
            have hl576 : (Lm.cns S k).length ≤ 576 := by rw [← KM.out ()]; exact hm
            have KP2 : Hid (Nl wr (.slice pu pn pc) (Lm.prs (fun x y => x + y) (Lm.cns S k))) := by
              rw [← hprs]
              exact Io.nl KP.out (by rw [hprs, Lm.prs_length]; omega)
            have KX1 : Below w1.heap.size w1 wr := KB1.out.trans (KX.out.mono KB1.out.size)
            have HC := rmerge_any _ _ _ _ wr (P1.out.later KX1) KP2.out
            rw [← Lm.cns_succ] at HC
            have HX1 := Lib.hid KX1
            have hcc : Hid (c = 2 * q) := hc
            have hc600 : c ≤ 600 := by omega
            clear hprs hl576 KP KX1 hc
            go_wp2_with fail
            refine HC.mono ?_
            clear HC
            rintro e w3 ⟨v3, rfl, ho3, hb3⟩
            have hl3 := Lm.cns_length S (k + 1)
            have P3 : Hid (Nl w3 v3 (Lm.cns S (k + 1))) := Io.nl ho3 (by have := HN.out; omega)
            obtain ⟨a3, c3, e3⟩ := Io.slice ho3
            obtain ⟨n3, hn3⟩ : ∃ n3, n3 = (Lm.cns S (k + 1)).length := ⟨_, rfl⟩
            rw [← hn3] at e3 hl3
            have hn576 : n3 ≤ 576 := by have := HN.out; omega
            have KM3 := Lib.hid (fun _ : Unit => hn3)
            rw [e3] at P3 ⊢
            have B3 : Hid (Below w1.heap.size w1 w3) := HX1.out.trans (hb3.mono HX1.out.size)
            have BB3 : Hid (Below w.heap.size w w3) := B1.out.trans (B3.out.mono B1.out.size)
            clear ho3 hb3 hl3 hn3 e3
            go_wp2_with fail
            go_roundw
            case rel => exact ⟨k + 1, n3, _, _, by omega, by go_num, rfl, hn576, KM3, P3, BB3, B3⟩
            case measure => simp [intOf]; omega
      · obtain rfl : k = M := by omega
        have hge : 2 * n - 2 ≤ m := by rw [KM.out ()]; exact HEN.out ()
        obtain ⟨t, ht⟩ : ∃ t, t = 2 * n - 2 := ⟨_, rfl⟩
        rw [← ht] at hge
        have HLE2 : Hid (Unit → L = Lm.sm (fun x => x) ((Lm.cns S k).take t)) := fun _ => by rw [ht]; exact HLE.out ()
        have g1 : (2 : Int) * (n : Int) - 2 = (t : Int) := by omega
        have ht2 : t ≤ 574 := by omega
        have HT := Lib.hid ht
        clear HLE HEN ht
        obtain ⟨W0, rfl⟩ : ∃ W0, W0 = wr := ⟨wr, rfl⟩
        go_wp2_with fail
        go_loopw [12, 13] (fun s12 s13 wr => ∃ i u : Nat, i ≤ t ∧ s13 = .int .i64 (i : Int) ∧ s12 = .int .i64 (u : Int) ∧ Hid (Unit → u = Lm.sm (fun x => x) ((Lm.cns S k).take i)) ∧ u ≤ i * 70368744161280 ∧ wr = W0) (fun _ s _ => t - (intOf s).toNat)
        case atStart => exact ⟨0, 0, Nat.zero_le _, rfl, rfl, fun _ => rfl, by omega, rfl⟩
        case round =>
          obtain ⟨i, u2, hi, rfl, rfl, KU, hub, rfl⟩ := hrel
          by_cases hlt2 : i < t
          · obtain ⟨b, off, x, rfl, hb, hx, hcx⟩ := KN.out.get i (by omega)
            have bx := Lm.cns_bound S HBD.out k (by omega) i x hx
            have K2 : Hid (Unit → u2 + x = Lm.sm (fun x => x) ((Lm.cns S k).take (i + 1))) := fun _ => by rw [Lm.sm_step _ i x hx, ← KU.out ()]
            have hub2 : u2 ≤ 40391659148574720 := by omega
            have hub3 : u2 + x ≤ (i + 1) * 70368744161280 := by omega
            have g2 : decide ((i : Int) < (t : Int)) = true := by simp; omega
            have g3 : decide ((i : Int) < (m : Int)) = true := by simp; omega
            clear hx
            go_wp2_with fail
            go_roundw
            case rel => exact ⟨i + 1, u2 + x, by omega, by go_num, by go_num, K2, hub3, by first | rfl | trivial⟩
            case measure => simp [intOf]; omega
          · obtain rfl : i = t := by omega
            have g2 : decide ((i : Int) < (i : Int)) = false := by simp
            go_wp2
            go_ret
            exact ⟨by rw [HLE2.out (), KU.out ()]; rfl, KB.out⟩
end Go.Proofs.Ytedbonnejgpjeaa
