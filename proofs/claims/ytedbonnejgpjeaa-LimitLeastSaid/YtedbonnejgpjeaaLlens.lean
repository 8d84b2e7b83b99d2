/- Contracts of lengthen and of limit.Lengths. -/
import Derived.Test.YtedbonnejgpjeaaLlight
import Derived.Deep.OwnRows
namespace Go.Proofs.Ytedbonnejgpjeaa
open Go.RowKit

/-- Block g holds n numbers. -/
def Rz (w : World) (g n : Nat) (d : Nat → Nat) : Prop := ∃ cs : Array Value, Has w g (.cells cs 3 (0, 0)) ∧ cs.size = n ∧ ∀ i, i < n → cs[i]? = some (.int .i64 (d i : Int))
theorem Rz.cell {w : World} {g n : Nat} {d : Nat → Nat} (h : Rz w g n d) (i : Nat) (hi : i < n) : w.cell? ⟨g, i, none⟩ = some (.int .i64 (d i : Int)) := by
  obtain ⟨cs, h1, _, h3⟩ := h
  rw [h1.cell]; exact h3 i hi
theorem Rz.free {w : World} {g n : Nat} {d : Nat → Nat} (h : Rz w g n d) (i : Nat) : w.frozen? ⟨g, i, none⟩ = false := by
  obtain ⟨cs, h1, _, _⟩ := h
  exact h1.free i
theorem Rz.lt {w : World} {g n : Nat} {d : Nat → Nat} (h : Rz w g n d) : g < w.heap.size := by obtain ⟨cs, h1, _, _⟩ := h; exact h1.lt
theorem Rz.later {w w' : World} {g n : Nat} {d : Nat → Nat} (h : Rz w g n d) (hb : Below w.heap.size w w') : Rz w' g n d := by
  obtain ⟨cs, h1, h2, h3⟩ := h
  exact ⟨cs, h1.later hb, h2, h3⟩
theorem Rz.congr {w : World} {g n : Nat} {d e : Nat → Nat} (h : Rz w g n d) (he : ∀ i, i < n → e i = d i) : Rz w g n e := by
  obtain ⟨cs, h1, h2, h3⟩ := h
  exact ⟨cs, h1, h2, fun i hi => by rw [he i hi]; exact h3 i hi⟩
theorem Rz.set {w : World} {g n : Nat} {d : Nat → Nat} (h : Rz w g n d) (p v : Nat) (hp : p < n) : Rz (w.setCell ⟨g, p, none⟩ (.int .i64 (v : Int))) g n (fun i => if i = p then v else d i) := by
  obtain ⟨cs, h1, h2, h3⟩ := h
  refine ⟨_, h1.setSelf _, by simp [h2], fun i hi => ?_⟩
  show _ = some (Value.int .i64 ((if i = p then v else d i : Nat) : Int))
  by_cases e : i = p
  · subst e
    rw [if_pos rfl]
    simp [h2, hp]
  · rw [if_neg e]
    rw [Array.getElem?_setIfInBounds_ne (by omega)]
    exact h3 i hi

/-- The leaves' symbols are below n. -/
def SymsIn (n : Nat) : Lm.Tr → Prop
  | .leaf _ s => s < n
  | .node a b => SymsIn n a ∧ SymsIn n b

/-- What lengthen leaves. -/
def LenPost (w : World) (C n : Nat) (d : Nat → Nat) (t : Lm.Tr) (e : Ending) (w' : World) : Prop := e = .returned (.tuple #[]) ∧ Rz w' C n (fun i => d i + t.cnt i) ∧ Only C w w'

set_option maxHeartbeats 2000000 in
theorem lengthen_any (C n cap : Nat) : ∀ (t : Lm.Tr) (b : Nat) (d : Nat → Nat) (w : World), Pk w t b → Rz w C n d → SymsIn n t → (∀ i, i < n → d i + t.cnt i ≤ 1000000) →
    Calls Try.prog 22 #[.pointer (some ⟨b, 0, none⟩), .slice (some ⟨C, 0, none⟩) n cap] w (LenPost w C n d t)
  | .leaf x s, b, d, w, hp, hr, hs, hd => by
    have hp' : Has w b (.cells #[.int .i64 (x : Int), .int .i64 (s : Int), .pointer none, .pointer none] 55 (0, 0)) := hp
    have hs' : s < n := hs
    have c1 : w.cell? ⟨b, 1, none⟩ = some (.int .i64 (s : Int)) := by rw [hp'.cell]; rfl
    have c2 : w.cell? ⟨b, 2, none⟩ = some (.pointer none) := by rw [hp'.cell]; rfl
    have c3 := hr.cell s hs'
    have f3 := hr.free s
    have hb := hd s hs'
    obtain ⟨y, hy⟩ : ∃ y, y = d s := ⟨_, rfl⟩
    rw [← hy] at c3 hb
    have hy2 : y ≤ 1000000 := by omega
    have HR : Hid (Rz (w.setCell ⟨C, s, none⟩ (.int .i64 ((y + 1 : Nat) : Int))) C n (fun i => d i + (Lm.Tr.leaf x s).cnt i)) := by
      refine (hr.set s (y + 1) hs').congr fun i hi => ?_
      simp only [Lm.Tr.cnt]
      by_cases e : i = s
      · subst e; rw [if_pos rfl, if_pos rfl, hy]
      · rw [if_neg e, if_neg (fun h => e h.symm), Nat.add_zero]
    clear hp hp' hr hs hd hb hy
    go_enter Try.func22, Try.ntmps22
    go_wp2
    go_end0
    exact ⟨rfl, HR.out, only_set _ _ _ _⟩
  | .node x y, b, d, w, hp, hr, hs, hd => by
    obtain ⟨p, q, hh, hx, hy⟩ := hp
    have c2 : w.cell? ⟨b, 2, none⟩ = some (.pointer (some ⟨p, 0, none⟩)) := by rw [hh.cell]; rfl
    have HC1 := lengthen_any C n cap x p d w hx hr hs.1 (fun i hi => by have := hd i hi; simp only [Lm.Tr.cnt] at this; omega)
    have HH := Lib.hid hh
    have HY := Lib.hid hy
    have HD := Lib.hid hd
    have HS := Lib.hid hs
    have HT := Lib.hid hr
    clear hh hx hy hr hs hd
    go_enter Try.func22, Try.ntmps22
    go_wp2_with fail
    refine HC1.mono ?_
    clear HC1
    rintro e w1 ⟨rfl, hr1, ho1⟩
    obtain ⟨cs, hcs, _⟩ := HT.out
    have hh1 := HH.out.only ho1 (HH.out.apart hcs (by decide))
    have c3 : w1.cell? ⟨b, 3, none⟩ = some (.pointer (some ⟨q, 0, none⟩)) := by rw [hh1.cell]; rfl
    have HC2 := lengthen_any C n cap y q _ w1 (Pk.only hcs (by decide) ho1 HY.out) hr1 HS.out.2 (fun i hi => by have := HD.out i hi; simp only [Lm.Tr.cnt] at this; omega)
    have O1 := Lib.hid ho1
    clear hcs hh1 ho1 hr1 c2
    go_wp2_with fail
    refine HC2.mono ?_
    clear HC2
    rintro e w2 ⟨rfl, hr2, ho2⟩
    have R2 : Hid (Rz w2 C n (fun i => d i + (Lm.Tr.node x y).cnt i)) := hr2.congr fun i hi => by simp only [Lm.Tr.cnt]; omega
    have O2 := Lib.hid (O1.out.trans ho2)
    clear hr2 ho2
    go_wp2
    go_end0
    exact ⟨rfl, R2.out, O2.out⟩

namespace Lm
theorem sgl_mem (fs : List Nat) (t : Tr) (h : t ∈ sgl fs) : ∃ p, p ∈ srt fs ∧ t = .of p ∧ p.2 < fs.length ∧ p.1 = fs[p.2]?.getD 0 ∧ p.1 ≠ 0 := by
  obtain ⟨p, hp, rfl⟩ := List.mem_map.1 h
  have := (usd_mem fs fs.length p).1 ((srt_perm fs).mem_iff.1 hp)
  exact ⟨p, hp, rfl, this⟩
theorem syms_prs (n : Nat) (ts : List Tr) (h : ∀ t ∈ ts, SymsIn n t) : ∀ t ∈ prs Tr.node ts, SymsIn n t := by
  intro t ht
  obtain ⟨q, hq⟩ := List.getElem?_of_mem ht
  obtain ⟨x, y, h1, h2, rfl⟩ := prs_get _ _ _ _ hq
  exact ⟨h x (List.mem_of_getElem? h1), h y (List.mem_of_getElem? h2)⟩
theorem syms_lvl (n : Nat) (ts : List Tr) (h : ∀ t ∈ ts, SymsIn n t) (j : Nat) : ∀ t ∈ lvl Tr.wt .node ts j, SymsIn n t := by
  induction j with
  | zero => exact h
  | succ j ih =>
    intro t ht
    rcases List.mem_append.1 ((mrg_perm Tr.wt _ _).mem_iff.1 ht) with ht | ht
    · exact h t ht
    · exact syms_prs n _ ih t ht
theorem lgt_mem (ts : List Tr) (M : Nat) (t : Tr) (h : t ∈ lgt ts M) : ∃ j, t ∈ lvl Tr.wt .node ts j := by
  unfold lgt at h
  split at h
  · exact ⟨0, h⟩
  · exact ⟨_, List.mem_of_mem_take h⟩
theorem lgt_syms (fs : List Nat) (M : Nat) : ∀ t ∈ lgt (sgl fs) M, SymsIn fs.length t := by
  intro t ht
  obtain ⟨j, hj⟩ := lgt_mem _ _ _ ht
  refine syms_lvl _ _ (fun u hu => ?_) j t hj
  obtain ⟨p, _, rfl, hp, _⟩ := sgl_mem fs u hu
  exact hp
theorem sgl_wt (fs : List Nat) (h : ∀ i, i < fs.length → fs[i]?.getD 0 ≤ 4294967295) : ∀ t ∈ sgl fs, t.wt ≤ 4294967295 := by
  intro t ht
  obtain ⟨p, _, rfl, hp, he, _⟩ := sgl_mem fs t ht
  show p.1 ≤ _
  rw [he]; exact h _ hp

/-- How long codes are: never more than there are levels. -/
theorem len_le (fs : List Nat) (M : Nat) (hM : 1 ≤ M) (hf : (srt fs).length ≤ 2 ^ M) (s : Nat) : len fs M s ≤ M := by
  by_cases hn : 2 ≤ (srt fs).length
  · by_cases h : ∃ p ∈ srt fs, p.2 = s
    · obtain ⟨p, hp, rfl⟩ := h
      exact (len_two fs M hM hn hf p hp).2
    · unfold len
      rw [lgt_sum fs M hM hn hf (Tr.cnt s) fun _ _ => rfl]
      have : sm (fun t => sm (Tr.cnt s) ((sgl fs).take t)) (buy fs M) = sm (fun _ => 0 * 1) (buy fs M) := sm_congr fun t _ => by
        show sm (Tr.cnt s) ((sgl fs).take t) = 0
        unfold sgl
        rw [← List.map_take, sm_map]
        have : sm (fun x => Tr.cnt s (Tr.of x)) ((srt fs).take t) = sm (fun _ => 0 * 1) ((srt fs).take t) := sm_congr fun x hx => by
          have : x.2 ≠ s := fun e => h ⟨x, List.mem_of_mem_take hx, e⟩
          simp only [Tr.of, Tr.cnt]
          rw [if_neg this]
        rw [this, sm_mul]; simp
      rw [this, sm_mul]; simp
  · have h1 : len fs M s = sm (Tr.cnt s) (sgl fs) := by unfold len lgt; rw [if_pos (by rw [sgl_length]; omega)]
    rw [h1]
    have h2 : sm (Tr.cnt s) (sgl fs) ≤ sm (fun _ => 1 * 1) (sgl fs) := sm_le fun t ht => by
      obtain ⟨p, _, rfl, _⟩ := sgl_mem fs t ht
      simp only [Tr.of, Tr.cnt]
      split <;> omega
    rw [sm_mul] at h2
    have h3 : sm (fun _ => 1) (sgl fs) = (sgl fs).length := by
      induction sgl fs with
      | nil => rfl
      | cons x l ih => rw [sm_cons, ih, List.length_cons]; omega
    rw [h3, sgl_length] at h2
    omega
theorem sm_take_le {α : Type} (c : α → Nat) (l : List α) (k : Nat) : sm c (l.take k) ≤ sm c l := by
  have := sm_take_mono c l k (max k l.length) (by omega)
  rwa [List.take_of_length_le (l := l) (i := max k l.length) (by omega)] at this
end Lm

/-- What Lengths leaves. -/
def LensPost (w : World) (fs : List Nat) (M : Nat) (e : Ending) (w' : World) : Prop :=
  ∃ C, e = .returned (.tuple #[.slice (some ⟨C, 0, none⟩) fs.length fs.length, .int .i64 0]) ∧ w.heap.size ≤ C ∧ Rz w' C fs.length (Lm.len fs M) ∧ Below w.heap.size w w'
/-- Why there are none. -/
def lerr (zs : List Int) (most : Int) : Int := if Nums zs ∧ 1 ≤ most ∧ most ≤ 15 then (if (Lm.srt (nat zs)).length ≤ 2 ^ most.toNat then 0 else 11) else 2

theorem Pl.only {w w' : World} {C n : Nat} {d : Nat → Nat} (hr : Rz w C n d) (ho : Only C w w') {s : Value} {ts : List Lm.Tr} (h : Pl w s ts) : Pl w' s ts := by
  obtain ⟨a, len, cap, rfl, h1, h2, h3, h4, h5⟩ := h
  obtain ⟨cs, hC, hn, hv⟩ := hr
  refine ⟨a, len, cap, rfl, h1, h2, h3, h4, fun hl => ?_⟩
  obtain ⟨b, off, rfl, hlt, hc⟩ := h5 hl
  have hne : b ≠ C := by
    rintro rfl
    obtain ⟨t, ht⟩ : ∃ t, ts[0]? = some t := ⟨_, List.getElem?_eq_getElem (by omega)⟩
    obtain ⟨p, hp, _⟩ := hc 0 t ht
    rw [hC.cell] at hp
    have hin := (Array.getElem?_eq_some_iff.1 hp).1
    rw [hv _ (by omega)] at hp
    cases hp
  refine ⟨b, off, rfl, Nat.lt_of_lt_of_le hlt ho.size, fun i t hi => ?_⟩
  obtain ⟨p, hp, hk⟩ := hc i t hi
  refine ⟨p, ?_, Pk.only hC (by decide) ho hk⟩
  rw [← hp]
  unfold World.cell?
  simp only
  rw [ho.block b hlt hne]

theorem madeRz (w : World) (n : Nat) : Rz (w.alloc (.cells (madeCells #[Value.int .i64 0] n) 3)) w.heap.size n (fun _ => 0) := by
  refine ⟨_, Has.new w _, ?_, fun i hi => ?_⟩
  · simp [madeCells]
  · simp [madeCells, hi, Nat.mod_one]

set_option maxHeartbeats 4000000 in
theorem lengths_ok (zs : List Int) (s : Value) (M : Nat) (w : World) (hz : Zl w s zs) (hv : Nums zs) (hM : 1 ≤ M) (hM2 : M ≤ 15) (hf : (Lm.srt (nat zs)).length ≤ 2 ^ M) :
    Calls Try.prog 9 #[s, .int .i64 (M : Int)] w (LensPost w (nat zs) M) := by
  have HA := aren_yes zs s w hz hv
  have HU := lused_any zs s w hz hv
  obtain ⟨a, len, cap, rfl, hl⟩ := hz.shape
  have hl2 : len ≤ 288 := by have := hv.2.1; omega
  have hl1 : 0 < len := by have := hv.1; omega
  have HL : Hid (len = (nat zs).length) := by show _ = _; rw [nat_length, hl]
  have HWT : Hid (∀ t ∈ Lm.sgl (nat zs), t.wt ≤ 4294967295) := Lm.sgl_wt _ fun i hi => by rw [nat_length] at hi; rw [nat_get]; have := hv.2.2 i hi; omega
  have HLE : Hid (∀ i, Lm.len (nat zs) M i ≤ 15) := fun i => by have := Lm.len_le (nat zs) M hM hf i; omega
  have HF := Lib.hid hf
  have hsl : (Lm.sgl (nat zs)).length ≤ 288 := by
    rw [Lm.sgl_length, Lm.srt_length]
    have h1 := Lm.usd_length (nat zs) (nat zs).length
    have h2 := HL.out
    omega
  have hmk := run_make_row' (P := Try.prog) 22 3 (.int .i64 0) 8 Try.underlying22 Try.infoInt rfl .i64 .i64 len (by omega) (by omega)
  have g1 : decide ((M : Int) < 1) = false := by simp; omega
  have g2 : decide (15 < (M : Int)) = false := by simp; omega
  clear hz hl hv hf
  go_enter Try.func9, Try.ntmps9
  go_wp2_with fail
  refine HA.mono ?_
  clear HA
  rintro e w0 ⟨rfl, rfl⟩
  go_wp2_with fail
  refine HU.mono ?_
  clear HU
  rintro e w1 ⟨v1, rfl, hp1, hb1⟩
  have P1 := Lib.hid hp1
  have B1 := Lib.hid hb1
  obtain ⟨a1, c1, rfl, _, _⟩ := hp1.shape
  obtain ⟨n1, hn1⟩ : ∃ n1, n1 = (Lm.sgl (nat zs)).length := ⟨_, rfl⟩
  rw [← hn1] at hsl P1 ⊢
  have HN1 := Lib.hid hn1
  obtain ⟨q, hq⟩ : ∃ q, q = 2 ^ M := ⟨_, rfl⟩
  have hq2 : q ≤ 32768 := by rw [hq]; exact Nat.pow_le_pow_right (by omega) hM2
  have hnq : ¬ q < n1 := by have h1 := HF.out; rw [← Lm.sgl_length, ← hn1, ← hq] at h1; omega
  have hsw : Value.int .i64 (wrap64 (2 ^ M)) = .int .i64 (q : Int) := by
    have e : ((2 : Int) ^ M) = (q : Int) := by rw [hq]; simp
    rw [e, IntWalk.wrap64_in _ (by omega)]
  clear hn1 hp1 hb1 hq
  go_wp2_with fail
  have hrz := madeRz w1 len
  have hbA := below1 w1 (.cells (madeCells #[Value.int IntKind.i64 0] len) 3)
  have HC := lightest_any _ _ M _ (P1.out.later hbA) (by rw [← HN1.out]; exact hsl) hM hM2 (by rw [Lm.sgl_length]; exact HF.out) HWT.out
  have RZ := Lib.hid hrz
  have BA := Lib.hid (B1.out.trans (hbA.mono B1.out.size))
  have HCW : Hid (w.heap.size ≤ w1.heap.size) := B1.out.size
  clear hrz hbA hsw hmk
  refine HC.mono ?_
  clear HC
  rintro e w2 ⟨v2, rfl, hp2, hb2⟩
  have P2 := Lib.hid hp2
  have R2 := Lib.hid (RZ.out.later hb2)
  have B2 := Lib.hid (BA.out.trans (hb2.mono BA.out.size))
  obtain ⟨a2, c2, rfl, hmc, hm1⟩ := hp2.shape
  obtain ⟨m, hm⟩ : ∃ m, m = (Lm.lgt (Lm.sgl (nat zs)) M).length := ⟨_, rfl⟩
  rw [← hm] at hm1 hmc P2 ⊢
  have HM := Lib.hid hm
  clear hp2 hb2 hm RZ BA P1
  obtain ⟨C, hC⟩ : ∃ C, C = w1.heap.size := ⟨_, rfl⟩
  rw [← hC] at R2 HCW ⊢
  clear hC B1
  go_wp2_with fail
  go_loopw [35] (fun s35 wr => ∃ k : Nat, k ≤ m ∧ s35 = .int .i64 (k : Int) ∧ Hid (Rz wr C len (fun i => Lm.sm (Lm.Tr.cnt i) ((Lm.lgt (Lm.sgl (nat zs)) M).take k))) ∧ Hid (Pl wr (.slice a2 m c2) (Lm.lgt (Lm.sgl (nat zs)) M)) ∧ Hid (Below w.heap.size w wr)) (fun s _ => m - (intOf s).toNat)
  case atStart => exact ⟨0, Nat.zero_le _, rfl, R2.out.congr fun i _ => by simp [Lm.sm], P2, B2⟩
  case round =>
    clear R2 P2 B2
    obtain ⟨k, hk, rfl, KR, KP, KB⟩ := hrel
    by_cases hlt : k < m
    · obtain ⟨a', m', c', e', e1, e2, e3, e4, e5⟩ := KP.out
      cases e'
      obtain ⟨b, off, rfl, hb, hc⟩ := e5 (by omega)
      obtain ⟨t, ht⟩ : ∃ t, (Lm.lgt (Lm.sgl (nat zs)) M)[k]? = some t := ⟨_, List.getElem?_eq_getElem (by rw [← HM.out]; exact hlt)⟩
      obtain ⟨p, hp, hpk⟩ := hc k t ht
      have hstep : ∀ i, Lm.sm (Lm.Tr.cnt i) ((Lm.lgt (Lm.sgl (nat zs)) M).take (k + 1)) = Lm.sm (Lm.Tr.cnt i) ((Lm.lgt (Lm.sgl (nat zs)) M).take k) + t.cnt i := fun i => by
        rw [List.take_add_one, Lm.sm_append, ht]; simp [Lm.sm]
      have hbd : ∀ i, i < len → Lm.sm (Lm.Tr.cnt i) ((Lm.lgt (Lm.sgl (nat zs)) M).take k) + t.cnt i ≤ 1000000 := fun i _ => by
        rw [← hstep]
        have h1 := Lm.sm_take_le (Lm.Tr.cnt i) (Lm.lgt (Lm.sgl (nat zs)) M) (k + 1)
        have h2 : Lm.sm (Lm.Tr.cnt i) (Lm.lgt (Lm.sgl (nat zs)) M) ≤ 15 := HLE.out i
        omega
      have HC := lengthen_any C len len t p _ wr hpk KR.out (by rw [HL.out]; exact Lm.lgt_syms (nat zs) M t (List.mem_of_getElem? ht)) hbd
      have HS := Lib.hid hstep
      clear e1 e2 e3 e4 e5 hc ht hpk hstep hbd
      go_wp2_with fail
      refine HC.mono ?_
      clear HC
      rintro e w3 ⟨rfl, hr3, ho3⟩
      have R3 : Hid (Rz w3 C len (fun i => Lm.sm (Lm.Tr.cnt i) ((Lm.lgt (Lm.sgl (nat zs)) M).take (k + 1)))) := hr3.congr fun i _ => HS.out i
      have P3 := Lib.hid (KP.out.only KR.out ho3)
      have B3 := Lib.hid (ho3.below KB.out HCW.out KB.out.size)
      clear hr3 ho3 hp KR KP KB HS
      go_wp2_with fail
      go_roundw
      case rel => exact ⟨k + 1, by omega, by go_num, R3, P3, B3⟩
      case measure => simp [intOf]; omega
    · obtain rfl : k = m := by omega
      have R4 : Hid (Rz wr C len (Lm.len (nat zs) M)) := by
        refine KR.out.congr fun i _ => ?_
        unfold Lm.len
        rw [List.take_of_length_le (by rw [← HM.out]; exact Nat.le_refl _)]
      clear KR KP
      go_wp2
      go_ret2
      refine ⟨C, ?_, HCW.out, ?_, KB.out⟩
      · rw [← HL.out]; rfl
      · rw [← HL.out]; exact R4.out

/-- What Lengths leaves where there are none. -/
def NoLens (w : World) (c : Int) (e : Ending) (w' : World) : Prop := e = .returned (.tuple #[.slice none 0 0, .int .i64 c]) ∧ Below w.heap.size w w'

set_option maxHeartbeats 2000000 in
theorem lengths_arg (zs : List Int) (s : Value) (most : Int) (w : World) (hz : Zl w s zs) (h : ¬ (Nums zs ∧ 1 ≤ most ∧ most ≤ 15)) :
    Calls Try.prog 9 #[s, .int .i64 most] w (NoLens w 2) := by
  by_cases hv : Nums zs
  · have HA := aren_yes zs s w hz hv
    obtain ⟨a, len, cap, rfl, hl⟩ := hz.shape
    by_cases h1 : most < 1
    · have g1 : decide (most < 1) = true := by simpa using h1
      clear hz hl hv h
      go_enter Try.func9, Try.ntmps9
      go_wp2_with fail
      refine HA.mono ?_
      clear HA
      rintro e w0 ⟨rfl, rfl⟩
      go_wp2
      go_ret2
      exact ⟨rfl, Below.refl _ _⟩
    · have h2 : 15 < most := Int.not_le.1 fun h3 => h ⟨hv, by omega, h3⟩
      have g1 : decide (most < 1) = false := by simpa using h1
      have g2 : decide (15 < most) = true := by simpa using h2
      clear hz hl hv h
      go_enter Try.func9, Try.ntmps9
      go_wp2_with fail
      refine HA.mono ?_
      clear HA
      rintro e w0 ⟨rfl, rfl⟩
      go_wp2
      go_ret2
      exact ⟨rfl, Below.refl _ _⟩
  · have HA := aren_no zs s w hz hv
    obtain ⟨a, len, cap, rfl, hl⟩ := hz.shape
    clear hz hl hv h
    go_enter Try.func9, Try.ntmps9
    go_wp2_with fail
    refine HA.mono ?_
    clear HA
    rintro e w0 ⟨rfl, rfl⟩
    go_wp2
    go_ret2
    exact ⟨rfl, Below.refl _ _⟩

set_option maxHeartbeats 2000000 in
theorem lengths_over (zs : List Int) (s : Value) (M : Nat) (w : World) (hz : Zl w s zs) (hv : Nums zs) (hM : 1 ≤ M) (hM2 : M ≤ 15) (hf : ¬ (Lm.srt (nat zs)).length ≤ 2 ^ M) :
    Calls Try.prog 9 #[s, .int .i64 (M : Int)] w (NoLens w 11) := by
  have HA := aren_yes zs s w hz hv
  have HU := lused_any zs s w hz hv
  obtain ⟨a, len, cap, rfl, hl⟩ := hz.shape
  have HF := Lib.hid hf
  have g1 : decide ((M : Int) < 1) = false := by simp; omega
  have g2 : decide (15 < (M : Int)) = false := by simp; omega
  clear hz hl hv hf
  go_enter Try.func9, Try.ntmps9
  go_wp2_with fail
  refine HA.mono ?_
  clear HA
  rintro e w0 ⟨rfl, rfl⟩
  go_wp2_with fail
  refine HU.mono ?_
  clear HU
  rintro e w1 ⟨v1, rfl, hp1, hb1⟩
  have B1 := Lib.hid hb1
  obtain ⟨a1, c1, rfl, _, _⟩ := hp1.shape
  obtain ⟨n1, hn1⟩ : ∃ n1, n1 = (Lm.sgl (nat zs)).length := ⟨_, rfl⟩
  rw [← hn1]
  obtain ⟨q, hq⟩ : ∃ q, q = 2 ^ M := ⟨_, rfl⟩
  have hq2 : q ≤ 32768 := by rw [hq]; exact Nat.pow_le_pow_right (by omega) hM2
  have hnq : q < n1 := by have h1 := HF.out; rw [← Lm.sgl_length, ← hn1, ← hq] at h1; omega
  have hsw : Value.int .i64 (wrap64 (2 ^ M)) = .int .i64 (q : Int) := by
    have e : ((2 : Int) ^ M) = (q : Int) := by rw [hq]; simp
    rw [e, IntWalk.wrap64_in _ (by omega)]
  clear hn1 hp1 hb1 hq
  go_wp2
  go_ret2
  exact ⟨rfl, B1.out⟩
end Go.Proofs.Ytedbonnejgpjeaa
