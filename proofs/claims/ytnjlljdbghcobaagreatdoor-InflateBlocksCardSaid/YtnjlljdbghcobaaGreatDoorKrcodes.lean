/- Contract of huff.Put. -/
import Derived.Test.YtnjlljdbghcobaaGreatDoorHrcodes
import Derived.Test.YtnjlljdbghcobaaGreatDoorHrd
import Derived.Test.YtnjlljdbghcobaaGreatDoorHnew2
import Derived.Test.YtnjlljdbghcobaaGreatDoorKhead

namespace Go.Proofs.YtnjlljdbghcobaaGreatDoor
set_option maxRecDepth 100000
open Go.RowKit

theorem zl_cell {w : World} {a : Option Addr} {len cap : Nat} {zs : List Int} (h : Zl w (.slice a len cap) zs) (k : Nat) (hk : k < zs.length) : ∃ b off, a = some ⟨b, off, none⟩ ∧ b < w.heap.size ∧ len = zs.length ∧ w.cell? ⟨b, off + k, none⟩ = some (.int .i64 (zs[k]?.getD 0)) := by
  obtain ⟨a', len', cap', e, h1, h2, h3, h4⟩ := h
  cases e
  obtain ⟨b, off, rfl, hb, hc⟩ := h4 (by omega)
  exact ⟨b, off, rfl, hb, h1, hc k (by omega)⟩

set_option maxHeartbeats 1000000 in
theorem hput_check (s : Value) (bs : List Nat) (N : Int) (s2 : Value) (zs : List Int) (sym : Int) (w : World) (hs : Sl w s bs) (hz : Zl w s2 zs) (hN : N ≤ 9223372036854775807) (hr : ¬ (0 ≤ N ∧ Bs.right bs N.toNat)) :
    Calls Tryz.prog 188 #[.agg #[s, .int .i64 N], s2, .int .i64 sym] w (NoRow w 2) := by
  have HS := Lib.hid hs
  have HR := Lib.hid hr
  obtain ⟨a2, len2, cap2, rfl, hl2⟩ := hz.shape
  clear hs hr hz hl2
  obtain ⟨a, len, cap, rfl, hl⟩ := HS.out.shape
  clear hl
  go_enter Tryz.func188, Tryz.ntmps188
  go_wp2_with fail
  refine (check_bad _ bs N _ (HS.out.later (below2 _ _ _)) hN HR.out).mono ?_
  rintro e w1 ⟨rfl, hb1⟩
  obtain ⟨k1, k2, kb, ks⟩ := facts2 hb1
  clear hb1
  obtain ⟨c0, c1, f0, f1⟩ := k2.two
  go_wp2
  exact bodyPost_ret (v := .tuple #[.agg #[.slice none 0 0, .int .i64 0], .int .i64 2]) (by simp [results, Tryz.results188, go_sem, c0, c1]) rfl ⟨rfl, set2_below kb _ (by omega) _ _⟩

set_option maxHeartbeats 1000000 in
theorem hput_sym (s : Value) (bs : List Nat) (N : Nat) (s2 : Value) (zs : List Int) (sym : Int) (w : World) (hs : Sl w s bs) (hz : Zl w s2 zs) (hN : N ≤ 9223372036854775807) (hr : Bs.right bs N) (hy : sym < 0 ∨ (zs.length : Int) ≤ sym) :
    Calls Tryz.prog 188 #[.agg #[s, .int .i64 (N : Int)], s2, .int .i64 sym] w (NoRow w 2) := by
  have HS := Lib.hid hs
  have HR := Lib.hid hr
  obtain ⟨a2, len2, cap2, rfl, hl2⟩ := hz.shape
  have hy2 : sym < 0 ∨ (len2 : Int) ≤ sym := by rw [hl2]; exact hy
  have HY := Lib.hid hy2
  clear hs hr hz hl2 hy hy2
  obtain ⟨a, len, cap, rfl, hl⟩ := HS.out.shape
  clear hl
  go_enter Tryz.func188, Tryz.ntmps188
  go_wp2_with fail
  refine (check_ok _ bs N _ (HS.out.later (below2 _ _ _)) hN HR.out).mono ?_
  rintro e w1 ⟨rfl, hb1⟩
  obtain ⟨k1, k2, kb, ks⟩ := facts2 hb1
  clear hb1
  obtain ⟨c0, c1, f0, f1⟩ := k2.two
  by_cases h1 : sym < 0
  · have d1 : decide (sym < 0) = true := by simpa using h1
    go_wp2
    exact bodyPost_ret (v := .tuple #[.agg #[.slice none 0 0, .int .i64 0], .int .i64 2]) (by simp [results, Tryz.results188, go_sem, c0, c1]) rfl ⟨rfl, set2_below kb _ (by omega) _ _⟩
  · have d1 : decide (sym < 0) = false := by simpa using h1
    have h2 : (len2 : Int) ≤ sym := HY.out.resolve_left h1
    have d2 : decide ((len2 : Int) ≤ sym) = true := by simpa using h2
    go_wp2
    exact bodyPost_ret (v := .tuple #[.agg #[.slice none 0 0, .int .i64 0], .int .i64 2]) (by simp [results, Tryz.results188, go_sem, c0, c1]) rfl ⟨rfl, set2_below kb _ (by omega) _ _⟩

set_option maxHeartbeats 1000000 in
theorem hput_codes (s : Value) (bs : List Nat) (N : Nat) (s2 : Value) (zs : List Int) (sym : Nat) (w : World) (hs : Sl w s bs) (hz : Zl w s2 zs) (hN : N ≤ 9223372036854775807) (hr : Bs.right bs N) (hy : sym < zs.length) (hf : ¬ Fit zs) :
    Calls Tryz.prog 188 #[.agg #[s, .int .i64 (N : Int)], s2, .int .i64 (sym : Int)] w (NoRow w (chk zs)) := by
  have HS := Lib.hid hs
  have HR := Lib.hid hr
  have HZ := Lib.hid hz
  have HF := Lib.hid hf
  obtain ⟨a2, len2, cap2, rfl, hl2⟩ := hz.shape
  have hy2 : sym < len2 := by omega
  have hne : chk zs ≠ 0 := fun h => hf (Or.inl h)
  have hc0 : (chk zs != 0) = true := by rw [bne_iff_ne]; exact hne
  have HC : ∀ w', Below w.heap.size w w' → Calls Tryz.prog 129 #[.slice a2 len2 cap2] w' (NoCodes w' (chk zs)) := fun w' h => codes_no zs _ w' (hz.later h) hf
  generalize chk zs = c at HC hc0 hne ⊢
  have HCC := Lib.hid HC
  clear hs hr hz hl2 hy hf HC hne
  obtain ⟨a, len, cap, rfl, hl⟩ := HS.out.shape
  clear hl
  go_enter Tryz.func188, Tryz.ntmps188
  go_wp2_with fail
  refine (check_ok _ bs N _ (HS.out.later (below2 _ _ _)) hN HR.out).mono ?_
  rintro e w1 ⟨rfl, hb1⟩
  obtain ⟨k1, k2, kb, ks⟩ := facts2 hb1
  clear hb1
  have KB := Lib.hid kb
  have d1 : decide ((sym : Int) < 0) = false := by simp
  have d2 : decide (len2 ≤ sym) = false := by simp; omega
  clear kb
  go_wp2_with fail
  refine (HCC.out _ KB.out).mono ?_
  rintro e w2 ⟨rfl, hb2⟩
  have k2' := k2.later hb2
  have KB2 := Lib.hid (KB.out.trans (hb2.mono (by omega)))
  clear hb2
  obtain ⟨c0, c1, f0, f1⟩ := k2'.two
  go_wp2
  exact bodyPost_ret (v := .tuple #[.agg #[.slice none 0 0, .int .i64 0], .int .i64 c]) (by simp [results, Tryz.results188, go_sem, c0, c1]) rfl ⟨rfl, set2_below KB2.out _ (by omega) _ _⟩
/-- The bits of a symbol's code, the highest one first. -/
def cw (ls : List Nat) (x : Nat) : List Bool := Bs.bitsOf (turned ((Hf.codes ls)[x]?.getD 0) (Hf.ln ls x)) (Hf.ln ls x)

theorem il_cell {lo : Nat} {w : World} {v : Value} {xs : List Nat} (h : Il lo w v xs) (h0 : 0 < xs.length) : ∃ g cap, v = .slice (some ⟨g, 0, none⟩) xs.length cap ∧ lo ≤ g ∧ Rw w g xs.length (fun i => xs[i]?.getD 0) := by
  rcases h with ⟨rfl, rfl⟩ | ⟨g, cap, e, _, hg, hr⟩
  · simp at h0
  · exact ⟨g, cap, e, hg, hr⟩

/-- A code of a used symbol fits its length. -/
theorem code_fits {zs : List Int} (hf : Fit zs) (x : Nat) (hx : x < zs.length) (h0 : zs[x]?.getD 0 ≠ 0) : (Hf.codes (nat zs))[x]?.getD 0 < 2 ^ Hf.ln (nat zs) x ∧ Hf.ln (nat zs) x ≤ 15 ∧ 0 < Hf.ln (nat zs) x := by
  have hv := hf.valid
  have hg := hv.get x hx
  have h15 := hv.le x (by rw [nat_length]; exact hx)
  have hpos : 0 < Hf.ln (nat zs) x := by show 0 < (nat zs)[x]?.getD 0; omega
  obtain ⟨k, hk, rfl⟩ := Hf.sy_of (nat zs) x (by rw [nat_length]; exact hx) hpos h15
  rw [Hf.codes_get _ _ hk]
  exact ⟨Hf.cd_lt _ _ hk hf.pf, h15, hpos⟩

set_option maxHeartbeats 2000000 in
theorem hput_zero (s : Value) (bs : List Nat) (N : Nat) (s2 : Value) (zs : List Int) (sym : Nat) (w : World) (hs : Sl w s bs) (hz : Zl w s2 zs) (hN : N ≤ 9223372036854775807) (hr : Bs.right bs N) (hy : sym < zs.length) (hf : Fit zs) (h0 : zs[sym]?.getD 0 = 0) :
    Calls Tryz.prog 188 #[.agg #[s, .int .i64 (N : Int)], s2, .int .i64 (sym : Int)] w (NoRow w 13) := by
  have HS := Lib.hid hs
  have HR := Lib.hid hr
  obtain ⟨a2, len2, cap2, rfl, hl2⟩ := hz.shape
  obtain ⟨b2, off2, rfl, hb2, hle2, hc2⟩ := zl_cell hz sym hy
  clear hle2
  rw [h0] at hc2
  have hy2 : sym < len2 := by omega
  have HCC : Hid (∀ w', Below w.heap.size w w' → Calls Tryz.prog 129 #[.slice (some ⟨b2, off2, none⟩) len2 cap2] w' (CodesPost w' (Hf.codes (nat zs)))) := fun w' h => codes_ok zs _ w' (hz.later h) hf
  generalize Hf.codes (nat zs) = cs at HCC
  have H2 := Lib.hid hc2
  clear hs hr hz hl2 hy hf h0 hc2
  obtain ⟨a, len, cap, rfl, hl⟩ := HS.out.shape
  clear hl
  go_enter Tryz.func188, Tryz.ntmps188
  go_wp2_with fail
  refine (check_ok _ bs N _ (HS.out.later (below2 _ _ _)) hN HR.out).mono ?_
  rintro e w1 ⟨rfl, hb1⟩
  obtain ⟨k1, k2, kb, ks⟩ := facts2 hb1
  clear hb1
  have KB := Lib.hid kb
  have d1 : decide ((sym : Int) < 0) = false := by simp
  have d2 : decide (len2 ≤ sym) = false := by simp; omega
  clear kb
  go_wp2_with fail
  refine (HCC.out _ KB.out).mono ?_
  rintro e w2 ⟨v, rfl, _, hb3⟩
  have k2' := k2.later hb3
  have KB2 := Lib.hid (KB.out.trans (hb3.mono (by omega)))
  clear hb3
  obtain ⟨c0, c1, f0, f1⟩ := k2'.two
  have cl : w2.cell? ⟨b2, off2 + sym, none⟩ = some (.int .i64 0) := by rw [KB2.out.cell (p := ⟨b2, off2 + sym, none⟩) hb2]; exact H2.out
  go_wp2
  exact bodyPost_ret (v := .tuple #[.agg #[.slice none 0 0, .int .i64 0], .int .i64 13]) (by simp [results, Tryz.results188, go_sem, c0, c1]) rfl ⟨rfl, set2_below KB2.out _ (by omega) _ _⟩

end Go.Proofs.YtnjlljdbghcobaaGreatDoor

/- Contract of the document's New: why lengths are no table. -/
namespace Go.Proofs.YtnjlljdbghcobaaGreatDoor
set_option maxRecDepth 100000
open Go.RowKit

/-- The last number of a list, 0 of none. -/
def lastOf (ls : List Nat) (xs : List Nat) : Nat := (xs.getLast?.map (Hf.ln ls)).getD 0

theorem ordl_usedL (ls : List Nat) (h15 : ∀ i, i < ls.length → Hf.ln ls i ≤ 15) (x : Nat) : x ∈ Hf.ordl ls ↔ x ∈ Hf.usedL ls ls.length := by
  unfold Hf.ordl
  rw [Hf.mem_ordTo, Hf.mem_usedL]
  constructor
  · rintro ⟨h1, h2, _⟩; exact ⟨h1, by omega⟩
  · rintro ⟨h1, h2⟩; exact ⟨h1, by omega, h15 x h1⟩

theorem one_of_nodup {xs ys : List Nat} (hx : xs.Nodup) (h : ∀ x, x ∈ xs ↔ x ∈ ys) {y : Nat} (hy : ys = [y]) : xs = [y] := by
  subst hy
  match xs, hx, h with
  | [], _, h => exact absurd ((h y).2 (List.mem_singleton.2 rfl)) (by simp)
  | [a], _, h => rw [List.mem_singleton.1 ((h a).1 (List.mem_singleton.2 rfl))]
  | a :: b :: r, hx, h =>
    have ha := List.mem_singleton.1 ((h a).1 (by simp))
    have hb := List.mem_singleton.1 ((h b).1 (by simp))
    rw [ha, hb] at hx
    simp at hx

theorem ordl_nodup (ls : List Nat) : (Hf.ordl ls).Nodup := by
  refine (Hf.ordTo_sorted ls 15).imp ?_
  intro a b h e
  subst e
  unfold Hf.Lt at h
  omega
theorem usedL_nodup (ls : List Nat) (k : Nat) : (Hf.usedL ls k).Nodup := (Hf.usedL_sorted ls k).imp fun h e => by omega

/-- One symbol alone is used, and its length is 1: as the document counts it. -/
theorem lone_iff (ls : List Nat) (h15 : ∀ i, i < ls.length → Hf.ln ls i ≤ 15) : Lone ls ↔ ((Hf.usedL ls ls.length).length = 1 ∧ lastOf ls (Hf.usedL ls ls.length) = 1) := by
  unfold Lone lastOf
  constructor
  · rintro ⟨h1, h2⟩
    obtain ⟨x, hx⟩ := List.length_eq_one_iff.1 h1
    have hu := one_of_nodup (usedL_nodup ls ls.length) (fun y => (ordl_usedL ls h15 y).symm) hx
    rw [hu]
    refine ⟨rfl, ?_⟩
    unfold Hf.sy at h2
    rw [hx] at h2
    exact h2
  · rintro ⟨h1, h2⟩
    obtain ⟨x, hx⟩ := List.length_eq_one_iff.1 h1
    have ho := one_of_nodup (ordl_nodup ls) (ordl_usedL ls h15) hx
    rw [hx] at h2
    refine ⟨by rw [ho]; rfl, ?_⟩
    unfold Hf.sy
    rw [ho]
    exact h2

theorem usedL_step (ls : List Nat) (k x n : Nat) (hx : x = Hf.ln ls k) (hn : n = (Hf.usedL ls k).length) : (Hf.usedL ls (k + 1)).length = n + (if 0 < x then 1 else 0) := by
  simp only [Hf.usedL]
  rw [← hx, List.length_append, ← hn]
  by_cases h : x = 0
  · rw [if_pos h, if_neg (by omega)]; rfl
  · rw [if_neg h, if_pos (by omega)]; rfl
theorem lastOf_step (ls : List Nat) (k x n : Nat) (hx : x = Hf.ln ls k) (hn : n = lastOf ls (Hf.usedL ls k)) : lastOf ls (Hf.usedL ls (k + 1)) = if 0 < x then x else n := by
  simp only [Hf.usedL]
  rw [← hx]
  by_cases h : x = 0
  · rw [if_pos h, if_neg (by omega), List.append_nil, hn]
  · rw [if_neg h, if_pos (by omega)]
    unfold lastOf
    simp [hx]

set_option maxHeartbeats 2000000 in
theorem rnew_any (zs : List Int) (s : Value) (w : World) (hz : Zl w s zs) : Calls Tryz.prog 124 #[s] w fun e w' => e = .returned (.int .i64 (newE zs)) ∧ w = w' := by
  have HC := Lib.hid (rcheck_any zs s w hz)
  have HZ := Lib.hid hz
  obtain ⟨a, len, cap, rfl, hlen⟩ := hz.shape
  have HL := Lib.hid hlen
  by_cases h12 : chk zs = 12
  · have hv : Valid zs := Fit.valid (Or.inr h12)
    have hl9 : len ≤ 288 := by have := hv.2.1; omega
    have HE : Hid (newE zs = if (Hf.usedL (nat zs) (nat zs).length).length = 1 ∧ lastOf (nat zs) (Hf.usedL (nat zs) (nat zs).length) = 1 then 0 else 12) := by
      show _ = _
      unfold newE
      rw [h12]
      by_cases hl : Lone (nat zs)
      · rw [if_pos ⟨rfl, hl⟩, if_pos ((lone_iff _ fun i hi => hv.le i hi).1 hl)]
      · rw [if_neg (fun h => hl h.2), if_neg (fun h => hl ((lone_iff _ fun i hi => hv.le i hi).2 h))]
    rw [h12] at HC
    have HV := Lib.hid hv
    obtain ⟨r, hr⟩ : ∃ r, r = newE zs := ⟨_, rfl⟩
    rw [← hr] at HE ⊢
    clear hz hlen h12 hv hr
    go_enter Tryz.func124, Tryz.ntmps124
    go_wp2_with fail
    refine HC.out.mono ?_
    clear HC
    rintro e w' ⟨rfl, rfl⟩
    go_wp2_with fail
    go_loop [4, 5, 6] (fun s4 s5 s6 => ∃ k u o : Nat, k ≤ len ∧ s6 = .int .i64 k ∧ s4 = .int .i64 u ∧ s5 = .int .i64 o ∧ u ≤ k ∧ o ≤ 15 ∧ Hid (Unit → u = (Hf.usedL (nat zs) k).length) ∧ Hid (Unit → o = lastOf (nat zs) (Hf.usedL (nat zs) k))) (fun _ _ s => len - (intOf s).toNat)
    case atStart => exact ⟨0, 0, 0, Nat.zero_le _, rfl, rfl, rfl, Nat.le_refl _, by omega, (fun _ => rfl : Unit → _), (fun _ => rfl : Unit → _)⟩
    case round =>
      obtain ⟨k, u, o, hk, rfl, rfl, rfl, huk, ho, HU, HO⟩ := hrel
      by_cases hlt : k < len
      · obtain ⟨b, off, rfl, _, hq, hc⟩ := zl_cell HZ.out k (by have := HL.out; omega)
        have hg := HV.out.get k (by have := HL.out; omega)
        obtain ⟨x, hx⟩ : ∃ x : Nat, x = (nat zs)[k]?.getD 0 := ⟨_, rfl⟩
        rw [hg, ← hx] at hc
        have hx15 : x ≤ 15 := by rw [hx]; exact HV.out.le k (by rw [nat_length]; have := HL.out; omega)
        have HX := Lib.hid hx
        clear hq hg hx
        have j1 : (0 : Int) ≤ (k : Int) := by omega
        have j2 : (k : Int) < (len : Int) := by omega
        have NU : Hid (Unit → u + (if 0 < x then 1 else 0) = (Hf.usedL (nat zs) (k + 1)).length) := fun _ => (usedL_step (nat zs) k x u HX.out (HU.out ())).symm
        have NO : Hid (Unit → (if 0 < x then x else o) = lastOf (nat zs) (Hf.usedL (nat zs) (k + 1))) := fun _ => (lastOf_step (nat zs) k x o HX.out (HO.out ())).symm
        by_cases h0 : 0 < x
        · rw [if_pos h0] at NU NO
          have d1 : decide ((0 : Int) < (x : Int)) = true := decide_eq_true (by omega)
          have d2 : decide (0 < x) = true := decide_eq_true h0
          go_wp2
          go_round
          case rel => exact ⟨k + 1, u + 1, x, by omega, by go_num, by go_num, rfl, by omega, hx15, NU, NO⟩
          case measure => simp [intOf]; omega
        · rw [if_neg h0] at NU NO
          have d1 : decide ((0 : Int) < (x : Int)) = false := decide_eq_false (by omega)
          have d2 : decide (0 < x) = false := decide_eq_false h0
          go_wp2
          go_round
          case rel => exact ⟨k + 1, u, o, by omega, by go_num, rfl, rfl, by omega, ho, NU, NO⟩
          case measure => simp [intOf]; omega
      · obtain rfl : k = len := by omega
        have e1 : u = (Hf.usedL (nat zs) (nat zs).length).length := by rw [HU.out (), nat_length, HL.out]
        have e2 : o = lastOf (nat zs) (Hf.usedL (nat zs) (nat zs).length) := by rw [HO.out (), nat_length, HL.out]
        have HE2 : Hid (r = if u = 1 ∧ o = 1 then 0 else 12) := by rw [e1, e2]; exact HE.out
        clear e1 e2 HE HU HO
        by_cases hu : u = 1
        · by_cases ho1 : o = 1
          · have hr : Hid (r = 0) := by have := HE2.out; rw [if_pos ⟨hu, ho1⟩] at this; exact this
            subst hu ho1
            clear HE2
            go_wp2
            go_ret
            exact ⟨by rw [hr.out]; rfl, rfl⟩
          · have hr : Hid (r = 12) := by have := HE2.out; rw [if_neg (fun h => ho1 h.2)] at this; exact this
            have d2 : ((o : Int) == 1) = false := by rw [beq_eq_false_iff_ne]; omega
            subst hu
            clear HE2
            go_wp2
            go_ret
            exact ⟨by rw [hr.out]; rfl, rfl⟩
        · have hr : Hid (r = 12) := by have := HE2.out; rw [if_neg (fun h => hu h.1)] at this; exact this
          have d1 : ((u : Int) == 1) = false := by rw [beq_eq_false_iff_ne]; omega
          clear HE2
          go_wp2
          go_ret
          exact ⟨by rw [hr.out]; rfl, rfl⟩
  · have HE : newE zs = chk zs := by unfold newE; rw [if_neg (fun h => h12 h.1)]
    rw [HE]
    obtain ⟨c, hc⟩ : ∃ c, c = chk zs := ⟨_, rfl⟩
    rw [← hc] at HC h12 ⊢
    have d1 : (c == 12) = false := by rw [beq_eq_false_iff_ne]; exact h12
    clear hz hlen hc HE
    go_enter Tryz.func124, Tryz.ntmps124
    go_wp2_with fail
    refine HC.out.mono ?_
    clear HC
    rintro e w' ⟨rfl, rfl⟩
    go_wp2_with fail
    refine wp_loop_rounds 1 ?_
    rw [rounds_succ]
    by_cases h0 : 0 < len
    · have d2 : decide ((0 : Int) < (len : Int)) = true := decide_eq_true (by omega)
      go_wp2
      go_ret
      exact ⟨rfl, rfl⟩
    · have d2 : decide ((0 : Int) < (len : Int)) = false := decide_eq_false (by omega)
      go_wp2
      go_ret
      exact ⟨rfl, rfl⟩
end Go.Proofs.YtnjlljdbghcobaaGreatDoor

/- Contracts of the document's order and codes. -/
namespace Go.Proofs.YtnjlljdbghcobaaGreatDoor
set_option maxRecDepth 100000
open Go.RowKit

def ordL : List Nat := [16, 17, 18, 0, 8, 7, 9, 6, 10, 5, 11, 4, 12, 3, 13, 2, 14, 1, 15]
theorem ordL_get (k : Nat) : ordL[k]?.getD 0 = Hd.ord k := rfl

set_option maxHeartbeats 1000000 in
theorem rorder_is (w : World) : Calls Tryz.prog 198 #[] w fun e w' => e = .returned (.slice (some ⟨w.heap.size, 0, none⟩) 19 19) ∧ Has w' w.heap.size (nums ordL) ∧ Below w.heap.size w w' := by
  go_enter Tryz.func198, Tryz.ntmps198
  go_wp2
  go_ret
  exact ⟨rfl, Has.new w _, below1 _ _⟩

theorem rget_num (s : Value) (l : List Bool) (N p n : Nat) (w : World) (hs : Sl w s (Bs.pack l)) (hl : Hid (N = l.length)) (hN : N ≤ 2251799813685248) (hn : n ≤ 32) (hp : p + n ≤ N) (x : Nat) (hx : Hid (x = Hd.num l p n)) :
    Calls Tryz.prog 120 #[.agg #[s, .int .i64 (N : Int)], .int .i64 (p : Int), .int .i64 (n : Int)] w (Nums w (x : Int) 0) := by
  rw [hx.out]; exact rget_ok s l N p n w hs hl hN hn hp

/-- What the document's codes leaves. -/
def RCodePost (w : World) (l : List Bool) (N p c : Nat) (c6 : Int) (e : Ending) (w' : World) : Prop :=
  Below w.heap.size w w' ∧ ((p + 3 * c ≤ N ∧ ∃ g, e = .returned (.tuple #[.slice (some ⟨g, 0, none⟩) 19 19, .int .i64 ((p + 3 * c : Nat) : Int), .int .i64 c6]) ∧ Has w' g (nums (Hd.cl l p c))) ∨ (N < p + 3 * c ∧ e = .returned (.tuple #[.slice none 0 0, .int .i64 0, .int .i64 4])))

theorem RCodePost.short {w w' : World} {l : List Bool} {N p c : Nat} {c6 : Int} {e : Ending} (h : RCodePost w l N p c c6 e w') (hs : N < p + 3 * c) : e = .returned (.tuple #[.slice none 0 0, .int .i64 0, .int .i64 4]) ∧ Below w.heap.size w w' := by
  obtain ⟨hb, h⟩ := h
  rcases h with ⟨h, _⟩ | ⟨_, rfl⟩
  · omega
  · exact ⟨rfl, hb⟩
theorem RCodePost.ok {w w' : World} {l : List Bool} {N p c : Nat} {c6 : Int} {e : Ending} (h : RCodePost w l N p c c6 e w') (hs : p + 3 * c ≤ N) : ∃ g, e = .returned (.tuple #[.slice (some ⟨g, 0, none⟩) 19 19, .int .i64 ((p + 3 * c : Nat) : Int), .int .i64 c6]) ∧ Has w' g (nums (Hd.cl l p c)) ∧ Below w.heap.size w w' := by
  obtain ⟨hb, h⟩ := h
  rcases h with ⟨_, g, rfl, h⟩ | ⟨h, _⟩
  · exact ⟨g, rfl, h, hb⟩
  · omega

set_option maxRecDepth 100000 in
set_option maxHeartbeats 4000000 in
theorem rcodes_any (s : Value) (l : List Bool) (N p c : Nat) (w : World) (hs : Sl w s (Bs.pack l)) (hl : Hid (N = l.length)) (hN : N ≤ 2251799813685248) (hp : p ≤ N) (hc : c ≤ 19) :
    Calls Tryz.prog 168 #[.agg #[s, .int .i64 (N : Int)], .int .i64 (p : Int), .int .i64 (c : Int)] w (RCodePost w l N p c (newE (Hd.zz (Hd.cl l p c)))) := by
  have hmk : ∀ w, (Instr.makeSlice 33 (.int .i64 19) (.int .i64 19)).run Tryz.prog w = .ok (.slice (some ⟨w.heap.size, 0, none⟩) 19 19) (w.alloc (.cells (madeCells #[.int .i64 0] 19) 3)) :=
    fun w => run_make_row' (P := Tryz.prog) 33 3 (.int .i64 0) 8 Tryz.underlying33 Tryz.infoInt rfl .i64 .i64 19 (by omega) (by omega) w
  obtain ⟨a, len, cap, rfl, hlen⟩ := hs.shape
  clear hlen
  obtain ⟨w2, hw2⟩ : ∃ w2, w2 = (w.alloc (.cells #[.slice a len cap, .int .i64 (N : Int)] 36)).alloc (.cells (madeCells #[.int .i64 0] 19) 3) := ⟨_, rfl⟩
  have F2 : Below w2.heap.size w2 w2 := Below.refl _ _
  rw [hw2] at F2
  obtain ⟨X2, G2, B2, Z2⟩ := facts2 F2
  rw [← hw2] at X2 G2 B2 Z2
  have HS := Lib.hid hs
  have HX2 := Lib.hid X2
  have HG2 : Hid (Has w2 (w.heap.size + 1) (nums (Hd.cl l p 0))) := by
    have h := G2
    rw [made_cl l p] at h
    exact h
  have HB2 := Lib.hid B2
  have HZ2 := Lib.hid Z2
  have HNEW : Hid (∀ g W, Has W g (nums (Hd.cl l p c)) → Calls Tryz.prog 124 #[.slice (some ⟨g, 0, none⟩) 19 19] W fun e w' => e = .returned (.int .i64 (newE (Hd.zz (Hd.cl l p c)))) ∧ W = w') := fun g W h =>
    rnew_any _ _ W (zl_nums h (Hd.cl_length l p c).symm (by omega))
  generalize newE (Hd.zz (Hd.cl l p c)) = c6 at HNEW ⊢
  clear hs F2 X2 G2 B2 Z2
  go_enter Tryz.func168, Tryz.ntmps168
  go_wp2_with fail
  rw [← hw2]
  refine (rorder_is w2).mono ?_
  rintro e w3 ⟨rfl, ho3, hb3⟩
  have HO3 := Lib.hid ho3
  have HX3 := Lib.hid (HX2.out.later hb3)
  have HG3 := Lib.hid (HG2.out.later hb3)
  have HB3 := Lib.hid (HB2.out.trans (hb3.mono (by have := HZ2.out; omega)))
  have hz2 := HZ2.out
  have hz3 : w2.heap.size < w3.heap.size := ho3.lt
  clear ho3 hb3 HX2 HG2 HB2 HZ2 hw2 hmk
  go_wp2_with fail
  go_loopw [1, 11] (fun s1 s11 wr => ∃ k : Nat, s1 = .int .i64 ((p + 3 * k : Nat) : Int) ∧ s11 = .int .i64 (k : Int) ∧ k ≤ c ∧ p + 3 * k ≤ N ∧ Hid (Has wr w.heap.size (.cells #[.slice a len cap, .int .i64 (N : Int)] 36 (0, 0))) ∧ Hid (Has wr (w.heap.size + 1) (nums (Hd.cl l p k))) ∧ Hid (Has wr w2.heap.size (nums ordL)) ∧ Hid (Below w.heap.size w wr)) (fun _ s _ => c - (intOf s).toNat)
  case atStart => exact ⟨0, by go_num, by go_num, by omega, by omega, HX3, HG3, HO3, HB3⟩
  case round =>
    obtain ⟨k, rfl, rfl, hk, hpk, KX, KG, KO, KB⟩ := hrel
    obtain ⟨q, hq⟩ : ∃ q, q = p + 3 * k := ⟨_, rfl⟩
    rw [← hq] at hpk ⊢
    have HQ := Lib.hid hq
    by_cases hlt : k < c
    · have j0 : decide ((k : Int) < (c : Int)) = true := decide_eq_true (by omega)
      have j0' : decide (k < c) = true := decide_eq_true hlt
      obtain ⟨c0, c1, _, _⟩ := KX.out.two
      have KS := Lib.hid (HS.out.later KB.out)
      by_cases h3 : q + 3 ≤ N
      · obtain ⟨x, hxx⟩ : ∃ x, x = Hd.num l q 3 := ⟨_, rfl⟩
        have HXX := Lib.hid hxx
        have HGET := Lib.hid (rget_num _ l N q 3 wr KS.out hl hN (by omega) h3 x HXX)
        obtain ⟨o, ho⟩ : ∃ o, o = Hd.ord k := ⟨_, rfl⟩
        have ho19 : o < 19 := by rw [ho]; exact Hd.ord_lt k
        have HOO := Lib.hid ho
        have hk19 : k < 19 := by omega
        clear hxx ho hq
        go_wp2_with fail
        refine HGET.out.mono ?_
        clear HGET
        rintro e w4 ⟨rfl, hb4⟩
        have g0 := nums_cell (KO.out.later hb4) k hk19
        rw [ordL_get, ← HOO.out] at g0
        have hG4 := KG.out.later hb4
        have g1 := nums_cell hG4 o (by rw [Hd.cl_length]; exact ho19)
        have g2 : w4.frozen? ⟨w.heap.size + 1, o, none⟩ = false := by unfold nums at hG4; exact hG4.free o
        obtain ⟨z, hz⟩ : ∃ z, z = (Hd.cl l p k)[o]?.getD 0 := ⟨_, rfl⟩
        rw [← hz] at g1
        have hset := nums_set hG4 o x
        have N4 : Hid (Has (w4.setCell ⟨w.heap.size + 1, o, none⟩ (.int .i64 (x : Int))) (w.heap.size + 1) (nums (Hd.cl l p (k + 1)))) := by
          show Has _ _ _
          rw [HXX.out, HOO.out, HQ.out] at hset ⊢
          exact hset
        have X4 := Lib.hid ((KX.out.later hb4).set (a := ⟨w.heap.size + 1, o, none⟩) (by simp) (.int .i64 (x : Int)))
        have O4 := Lib.hid ((KO.out.later hb4).set (a := ⟨w.heap.size + 1, o, none⟩) (by simp only; omega) (.int .i64 (x : Int)))
        have B4 := Lib.hid ((KB.out.trans (hb4.mono KB.out.size)).setCell (p := ⟨w.heap.size + 1, o, none⟩) (by simp) (.int .i64 (x : Int)))
        have i1 : (o : Int) < 19 := by omega
        have i2 : (k : Int) < 19 := by omega
        clear hG4 hset hz hb4 c0 c1
        go_wp2
        go_round
        case rel => exact ⟨k + 1, by rw [show p + 3 * (k + 1) = q + 3 by have := HQ.out; omega]; go_num, by go_num, by omega, by have := HQ.out; omega, X4, N4, O4, B4⟩
        case measure => simp [intOf]; omega
      · have HGET := Lib.hid (rget_short _ (Bs.pack l) N q 3 wr KS.out (by omega) (by rw [hl.out]; exact Bs.pack_right l) (by omega) hpk (by omega))
        have hsh : N < p + 3 * c := by omega
        clear hq
        go_wp2_with fail
        refine HGET.out.mono ?_
        rintro e w4 ⟨rfl, hb4⟩
        have B4 := Lib.hid (KB.out.trans (hb4.mono KB.out.size))
        clear hb4
        go_wp2
        go_ret3
        exact ⟨B4.out, Or.inr ⟨hsh, rfl⟩⟩
    · obtain rfl : k = c := by omega
      have j0 : decide ((k : Int) < (k : Int)) = false := decide_eq_false (by omega)
      clear hq
      go_wp2_with fail
      refine (HNEW.out _ wr KG.out).mono ?_
      rintro e w4 ⟨rfl, rfl⟩
      go_wp2
      go_ret3
      exact ⟨KB.out, Or.inl ⟨by rw [← HQ.out]; exact hpk, _, by rw [← HQ.out]; rfl, KG.out⟩⟩
end Go.Proofs.YtnjlljdbghcobaaGreatDoor
