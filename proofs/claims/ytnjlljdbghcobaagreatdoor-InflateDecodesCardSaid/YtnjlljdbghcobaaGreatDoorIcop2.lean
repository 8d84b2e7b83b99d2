/- Contracts of inflate's reader: scaled, of lengths and of distances. -/
import Derived.Test.YtnjlljdbghcobaaGreatDoorItake2
import Derived.Test.YtnjlljdbghcobaaGreatDoorSall
import Derived.Laws.ResultCell

namespace Go.Proofs.YtnjlljdbghcobaaGreatDoor
set_option maxRecDepth 100000
open Go.RowKit

/-- What is wrong where bits beside a symbol are read. -/
def scE (bad : Prop) [Decidable bad] (N p n : Nat) : Int := if bad then 13 else if N < p + n then 4 else 0

set_option maxHeartbeats 4000000 in
theorem lscaled_any {K : Nat → Prop} {R : Nat} {s : Value} {l : List Bool} {N most : Nat} {w : World} {r : Rv} (y : Nat) (hy : 256 < y) (hS : St K R s l N most w r) (hl : Hid (N = l.length)) (hN : N ≤ 2251799813685248) :
    Calls Tryz.prog 213 #[.pointer (some ⟨R, 0, none⟩), .int .i64 (y : Int), .func (.func 85) #[] #[], .func (.func 214) #[] #[]] w
      (Out K w (scE (286 ≤ y) N r.p (Sy.at' Sy.lb (y - 257))) (.int .i64 ((Sy.at' Sy.lf (y - 257) + Hd.num l r.p (Sy.at' Sy.lb (y - 257)) : Nat) : Int)) (fun w' => St K R s l N most w' { r with p := r.p + Sy.at' Sy.lb (y - 257) })) := by
  have hc1 := Tryz.call85
  have hc2 := Tryz.call214
  have HS := Lib.hid hS
  by_cases h9 : 286 ≤ y
  · have e : scE (286 ≤ y) N r.p (Sy.at' Sy.lb (y - 257)) = 13 := by unfold scE; rw [if_pos h9]
    rw [e]
    have e2 : Sy.lbitA (y : Int) = (0, 13) := by unfold Sy.lbitA; rw [if_neg (by omega)]
    have HB := Lib.hid (fun W => lbit_go (y : Int) W)
    rw [e2] at HB
    generalize hv : Value.int .i64 ((Sy.at' Sy.lf (y - 257) + Hd.num l r.p (Sy.at' Sy.lb (y - 257)) : Nat) : Int) = v
    generalize hq : Sy.at' Sy.lb (y - 257) = q
    clear hS hv hq e e2 h9 hy
    go_enter Tryz.func213, Tryz.ntmps213
    go_wp2_with fail
    refine (HB.out _).mono ?_
    rintro e w1 ⟨rfl, hb1⟩
    have HB1 := Lib.hid hb1
    clear hb1
    go_wp2_with fail
    refine (ineedInt_bad _ 13 (by decide) _).mono ?_
    rintro e w2 ⟨rfl, rfl⟩
    exact ⟨rfl, Out.fault (by decide) (Fr.of_below HS.out.lt HB1.out)⟩
  · obtain ⟨k, hk⟩ : ∃ k, k = Sy.at' Sy.lb (y - 257) := ⟨_, rfl⟩
    obtain ⟨f, hf⟩ : ∃ f, f = Sy.at' Sy.lf (y - 257) := ⟨_, rfl⟩
    have hk9 : k ≤ 13 := by
      rw [hk]
      have h : (y - 257) < 29 := by omega
      generalize (y - 257) = i at h
      exact (by decide : ∀ i : Fin 29, Sy.at' Sy.lb i.1 ≤ 13) ⟨i, h⟩
    have e2 : Sy.lbitA (y : Int) = (k, 0) := by unfold Sy.lbitA; rw [if_pos (by omega), hk]; congr 2; omega
    have e3 : ∀ v : Nat, v < 2 ^ k → Sy.lnumA (y : Int) (v : Int) = (f + v, 0) := by
      intro v hv
      have e4 : ((y : Int) - 257).toNat = (y - 257) := by omega
      unfold Sy.lnumA
      rw [if_pos (by omega), e4, ← hk, ← hf, if_pos ⟨by omega, by norm_cast⟩, Int.toNat_natCast]
    have HB := Lib.hid (fun W => lbit_go (y : Int) W)
    rw [e2] at HB
    rw [← hk, ← hf]
    have HN := Lib.hid (fun W (hb : Below w.heap.size w W) => inum_any k (HS.out.later hb) hl hN (by omega))
    have hlim : scE (286 ≤ y) N r.p k = numE N r.p k := by unfold scE numE; rw [if_neg h9]
    rw [hlim]
    by_cases hc : numE N r.p k = 0
    · rw [hc] at HN ⊢
      have hv2 := Hd.num_lt l r.p k
      obtain ⟨v, hv⟩ : ∃ v, v = Hd.num l r.p k := ⟨_, rfl⟩
      rw [← hv] at HN hv2 ⊢
      have HO := Lib.hid (fun W => lnum_go (y : Int) (v : Int) W)
      rw [e3 v hv2] at HO
      obtain ⟨q, hq⟩ : ∃ q, q = r.p + k := ⟨_, rfl⟩
      rw [← hq] at HN ⊢
      clear hS hk hf e2 e3 hlim hc hv hv2 hq h9 hy
      go_enter Tryz.func213, Tryz.ntmps213
      go_wp2_with fail
      refine (HB.out _).mono ?_
      rintro e w1 ⟨rfl, hb1⟩
      have HB1 := Lib.hid hb1
      clear hb1
      go_wp2_with fail
      refine (ineedInt_ok _ _).mono ?_
      rintro e w2 ⟨rfl, rfl⟩
      go_wp2_with fail
      refine (HN.out _ HB1.out).mono ?_
      intro e w2 ho
      obtain ⟨rfl, hS2, hf2⟩ := ho.ok
      have HS2 := Lib.hid hS2
      have HF2 := Lib.hid hf2
      clear ho hS2 hf2
      go_wp2_with fail
      refine (HO.out _).mono ?_
      rintro e w3 ⟨rfl, hb3⟩
      have HB3 := Lib.hid hb3
      clear hb3
      go_wp2_with fail
      refine (ineedInt_ok _ _).mono ?_
      rintro e w4 ⟨rfl, rfl⟩
      go_wp2
      go_ret
      exact Out.intro (((Fr.of_below HS.out.lt HB1.out).trans HF2.out).trans (Fr.of_below HS2.out.lt HB3.out)) (HS2.out.later HB3.out)
    · obtain ⟨c, hcc⟩ : ∃ c, c = numE N r.p k := ⟨_, rfl⟩
      rw [← hcc] at HN hc ⊢
      generalize Hd.num l r.p k = v at HN ⊢
      generalize hq : r.p + k = q at HN ⊢
      clear hS hk hf e2 e3 hlim hcc hq h9 hy
      go_enter Tryz.func213, Tryz.ntmps213
      go_wp2_with fail
      refine (HB.out _).mono ?_
      rintro e w1 ⟨rfl, hb1⟩
      have HB1 := Lib.hid hb1
      clear hb1
      go_wp2_with fail
      refine (ineedInt_ok _ _).mono ?_
      rintro e w2 ⟨rfl, rfl⟩
      go_wp2_with fail
      refine (HN.out _ HB1.out).mono ?_
      intro e w2 ho
      obtain ⟨rfl, hf2⟩ := ho.bad hc
      exact ⟨rfl, Out.fault hc ((Fr.of_below HS.out.lt HB1.out).trans hf2)⟩

set_option maxHeartbeats 4000000 in
theorem dscaled_any {K : Nat → Prop} {R : Nat} {s : Value} {l : List Bool} {N most : Nat} {w : World} {r : Rv} (y : Nat) (hS : St K R s l N most w r) (hl : Hid (N = l.length)) (hN : N ≤ 2251799813685248) :
    Calls Tryz.prog 213 #[.pointer (some ⟨R, 0, none⟩), .int .i64 (y : Int), .func (.func 87) #[] #[], .func (.func 215) #[] #[]] w
      (Out K w (scE (30 ≤ y) N r.p (Sy.at' Sy.db y)) (.int .i64 ((Sy.at' Sy.df y + Hd.num l r.p (Sy.at' Sy.db y) : Nat) : Int)) (fun w' => St K R s l N most w' { r with p := r.p + Sy.at' Sy.db y })) := by
  have hc1 := Tryz.call87
  have hc2 := Tryz.call215
  have HS := Lib.hid hS
  by_cases h9 : 30 ≤ y
  · have e : scE (30 ≤ y) N r.p (Sy.at' Sy.db y) = 13 := by unfold scE; rw [if_pos h9]
    rw [e]
    have e2 : Sy.dbitA (y : Int) = (0, 13) := by unfold Sy.dbitA; rw [if_neg (by omega)]
    have HB := Lib.hid (fun W => dbit_go (y : Int) W)
    rw [e2] at HB
    generalize hv : Value.int .i64 ((Sy.at' Sy.df y + Hd.num l r.p (Sy.at' Sy.db y) : Nat) : Int) = v
    generalize hq : Sy.at' Sy.db y = q
    clear hS hv hq e e2 h9
    go_enter Tryz.func213, Tryz.ntmps213
    go_wp2_with fail
    refine (HB.out _).mono ?_
    rintro e w1 ⟨rfl, hb1⟩
    have HB1 := Lib.hid hb1
    clear hb1
    go_wp2_with fail
    refine (ineedInt_bad _ 13 (by decide) _).mono ?_
    rintro e w2 ⟨rfl, rfl⟩
    exact ⟨rfl, Out.fault (by decide) (Fr.of_below HS.out.lt HB1.out)⟩
  · obtain ⟨k, hk⟩ : ∃ k, k = Sy.at' Sy.db y := ⟨_, rfl⟩
    obtain ⟨f, hf⟩ : ∃ f, f = Sy.at' Sy.df y := ⟨_, rfl⟩
    have hk9 : k ≤ 13 := by
      rw [hk]
      have h : y < 30 := by omega
      generalize y = i at h
      exact (by decide : ∀ i : Fin 30, Sy.at' Sy.db i.1 ≤ 13) ⟨i, h⟩
    have e2 : Sy.dbitA (y : Int) = (k, 0) := by unfold Sy.dbitA; rw [if_pos (by omega), hk]; congr 2
    have e3 : ∀ v : Nat, v < 2 ^ k → Sy.dnumA (y : Int) (v : Int) = (f + v, 0) := by
      intro v hv
      have e4 : (y : Int).toNat = y := by omega
      unfold Sy.dnumA
      rw [if_pos (by omega), e4, ← hk, ← hf, if_pos ⟨by omega, by norm_cast⟩, Int.toNat_natCast]
    have HB := Lib.hid (fun W => dbit_go (y : Int) W)
    rw [e2] at HB
    rw [← hk, ← hf]
    have HN := Lib.hid (fun W (hb : Below w.heap.size w W) => inum_any k (HS.out.later hb) hl hN (by omega))
    have hlim : scE (30 ≤ y) N r.p k = numE N r.p k := by unfold scE numE; rw [if_neg h9]
    rw [hlim]
    by_cases hc : numE N r.p k = 0
    · rw [hc] at HN ⊢
      have hv2 := Hd.num_lt l r.p k
      obtain ⟨v, hv⟩ : ∃ v, v = Hd.num l r.p k := ⟨_, rfl⟩
      rw [← hv] at HN hv2 ⊢
      have HO := Lib.hid (fun W => dnum_go (y : Int) (v : Int) W)
      rw [e3 v hv2] at HO
      obtain ⟨q, hq⟩ : ∃ q, q = r.p + k := ⟨_, rfl⟩
      rw [← hq] at HN ⊢
      clear hS hk hf e2 e3 hlim hc hv hv2 hq h9
      go_enter Tryz.func213, Tryz.ntmps213
      go_wp2_with fail
      refine (HB.out _).mono ?_
      rintro e w1 ⟨rfl, hb1⟩
      have HB1 := Lib.hid hb1
      clear hb1
      go_wp2_with fail
      refine (ineedInt_ok _ _).mono ?_
      rintro e w2 ⟨rfl, rfl⟩
      go_wp2_with fail
      refine (HN.out _ HB1.out).mono ?_
      intro e w2 ho
      obtain ⟨rfl, hS2, hf2⟩ := ho.ok
      have HS2 := Lib.hid hS2
      have HF2 := Lib.hid hf2
      clear ho hS2 hf2
      go_wp2_with fail
      refine (HO.out _).mono ?_
      rintro e w3 ⟨rfl, hb3⟩
      have HB3 := Lib.hid hb3
      clear hb3
      go_wp2_with fail
      refine (ineedInt_ok _ _).mono ?_
      rintro e w4 ⟨rfl, rfl⟩
      go_wp2
      go_ret
      exact Out.intro (((Fr.of_below HS.out.lt HB1.out).trans HF2.out).trans (Fr.of_below HS2.out.lt HB3.out)) (HS2.out.later HB3.out)
    · obtain ⟨c, hcc⟩ : ∃ c, c = numE N r.p k := ⟨_, rfl⟩
      rw [← hcc] at HN hc ⊢
      generalize Hd.num l r.p k = v at HN ⊢
      generalize hq : r.p + k = q at HN ⊢
      clear hS hk hf e2 e3 hlim hcc hq h9
      go_enter Tryz.func213, Tryz.ntmps213
      go_wp2_with fail
      refine (HB.out _).mono ?_
      rintro e w1 ⟨rfl, hb1⟩
      have HB1 := Lib.hid hb1
      clear hb1
      go_wp2_with fail
      refine (ineedInt_ok _ _).mono ?_
      rintro e w2 ⟨rfl, rfl⟩
      go_wp2_with fail
      refine (HN.out _ HB1.out).mono ?_
      intro e w2 ho
      obtain ⟨rfl, hf2⟩ := ho.bad hc
      exact ⟨rfl, Out.fault hc ((Fr.of_below HS.out.lt HB1.out).trans hf2)⟩
end Go.Proofs.YtnjlljdbghcobaaGreatDoor

/- Contract of inflate's reader: copied. -/
namespace Go.Proofs.YtnjlljdbghcobaaGreatDoor
set_option maxRecDepth 100000
open Go.RowKit

namespace If
open Hd (num rd)
/-- What a length's symbol begins: the copy, the place behind, the error. -/
noncomputable def copt (l : List Bool) (dist : List Nat) (s p : Nat) : Tk × Nat × Int :=
  if 286 ≤ s then (⟨0, 0, 0⟩, 0, 13) else
  if l.length < p + Sy.at' Sy.lb (s - 257) then (⟨0, 0, 0⟩, 0, 4) else
  if ∀ x ∈ dist, x = 0 then (⟨0, 0, 0⟩, 0, 13) else
  if (rd dist l (p + Sy.at' Sy.lb (s - 257))).2.2 ≠ 0 then (⟨0, 0, 0⟩, 0, (rd dist l (p + Sy.at' Sy.lb (s - 257))).2.2) else
  if 30 ≤ (rd dist l (p + Sy.at' Sy.lb (s - 257))).1 then (⟨0, 0, 0⟩, 0, 13) else
  if l.length < (rd dist l (p + Sy.at' Sy.lb (s - 257))).2.1 + Sy.at' Sy.db (rd dist l (p + Sy.at' Sy.lb (s - 257))).1 then (⟨0, 0, 0⟩, 0, 4) else
  (⟨Sy.at' Sy.lf (s - 257) + num l p (Sy.at' Sy.lb (s - 257)), Sy.at' Sy.df (rd dist l (p + Sy.at' Sy.lb (s - 257))).1 + num l (rd dist l (p + Sy.at' Sy.lb (s - 257))).2.1 (Sy.at' Sy.db (rd dist l (p + Sy.at' Sy.lb (s - 257))).1), 0⟩,
   (rd dist l (p + Sy.at' Sy.lb (s - 257))).2.1 + Sy.at' Sy.db (rd dist l (p + Sy.at' Sy.lb (s - 257))).1, 0)

theorem lf_ok : ∀ i : Fin 29, 3 ≤ Sy.at' Sy.lf i.1 ∧ Sy.at' Sy.lf i.1 + 2 ^ Sy.at' Sy.lb i.1 ≤ 259 := by decide
theorem df_ok : ∀ i : Fin 30, 1 ≤ Sy.at' Sy.df i.1 ∧ Sy.at' Sy.df i.1 + 2 ^ Sy.at' Sy.db i.1 ≤ 32769 := by decide

/-- A copy that is told may be. -/
theorem copt_ok {l : List Bool} {dist : List Nat} {s p : Nat} (hs : 256 < s) (h : (copt l dist s p).2.2 = 0) : Cop (copt l dist s p).1 := by
  unfold copt at h ⊢
  by_cases h1 : 286 ≤ s
  · rw [if_pos h1] at h; simp at h
  rw [if_neg h1] at h ⊢
  by_cases h2 : l.length < p + Sy.at' Sy.lb (s - 257)
  · rw [if_pos h2] at h; simp at h
  rw [if_neg h2] at h ⊢
  by_cases h3 : ∀ x ∈ dist, x = 0
  · rw [if_pos h3] at h; simp at h
  rw [if_neg h3] at h ⊢
  generalize rd dist l (p + Sy.at' Sy.lb (s - 257)) = r at h ⊢
  by_cases h4 : r.2.2 ≠ 0
  · rw [if_pos h4] at h; exact absurd h h4
  rw [if_neg h4] at h ⊢
  by_cases h5 : 30 ≤ r.1
  · rw [if_pos h5] at h; simp at h
  rw [if_neg h5] at h ⊢
  by_cases h6 : l.length < r.2.1 + Sy.at' Sy.db r.1
  · rw [if_pos h6] at h; simp at h
  rw [if_neg h6] at h ⊢
  have e1 := lf_ok ⟨s - 257, by omega⟩
  have e2 := df_ok ⟨r.1, by omega⟩
  have e3 := Hd.num_lt l p (Sy.at' Sy.lb (s - 257))
  have e4 := Hd.num_lt l r.2.1 (Sy.at' Sy.db r.1)
  simp only at e1 e2
  refine ⟨rfl, ?_, ?_, ?_, ?_⟩
  · simp only; omega
  · simp only; omega
  · simp only; omega
  · simp only; omega

theorem copy_is (l : List Bool) (dist : List Nat) (most s p : Nat) (out : List Nat) (hs : 256 < s) :
    copy l dist most s p out = if (copt l dist s p).2.2 ≠ 0 then ([], 0, (copt l dist s p).2.2) else
      if takeE (copt l dist s p).1 out.length most ≠ 0 then ([], 0, takeE (copt l dist s p).1 out.length most) else (tell1 out (copt l dist s p).1, (copt l dist s p).2.1, 0) := by
  have hc := @copt_ok l dist s p hs
  unfold copy
  unfold copt at hc ⊢
  by_cases h1 : 286 ≤ s
  · rw [if_pos h1, if_pos h1, if_pos (by simp)]
  rw [if_neg h1, if_neg h1] at *
  by_cases h2 : l.length < p + Sy.at' Sy.lb (s - 257)
  · rw [if_pos h2, if_pos h2, if_pos (by simp)]
  rw [if_neg h2, if_neg h2] at *
  by_cases h3 : ∀ x ∈ dist, x = 0
  · rw [if_pos h3, if_pos h3, if_pos (by simp)]
  rw [if_neg h3, if_neg h3] at *
  generalize rd dist l (p + Sy.at' Sy.lb (s - 257)) = r at hc ⊢
  by_cases h4 : r.2.2 ≠ 0
  · rw [if_pos h4, if_pos h4, if_pos h4]
  rw [if_neg h4, if_neg h4] at *
  by_cases h5 : 30 ≤ r.1
  · rw [if_pos h5, if_pos h5, if_pos (by simp)]
  rw [if_neg h5, if_neg h5] at *
  by_cases h6 : l.length < r.2.1 + Sy.at' Sy.db r.1
  · rw [if_pos h6, if_pos h6, if_pos (by simp)]
  rw [if_neg h6, if_neg h6] at *
  have hc := hc rfl
  generalize Sy.at' Sy.lf (s - 257) + num l p (Sy.at' Sy.lb (s - 257)) = n at hc ⊢
  generalize Sy.at' Sy.df r.1 + num l r.2.1 (Sy.at' Sy.db r.1) = d at hc ⊢
  obtain ⟨_, g1, g2, g3, g4⟩ := hc
  simp only at g1 g2 g3 g4
  have e1 : sz ⟨n, d, 0⟩ = n := by unfold sz; simp only; rw [if_neg (by omega)]
  have e2 : tell1 out ⟨n, d, 0⟩ = cp d n out := by unfold tell1; simp only; rw [if_neg (by omega)]
  simp only [e2]
  unfold takeE
  rw [e1]
  simp only [ne_eq, not_true_eq_false, if_false]
  by_cases h7 : out.length < d
  · rw [if_pos h7, if_pos h7, if_pos (by simp)]
  rw [if_neg h7, if_neg h7]
  by_cases h8 : most < out.length + n
  · rw [if_pos h8, if_pos h8, if_pos (by simp)]
  rw [if_neg h8, if_neg h8, if_neg (by simp)]
end If

/-- A table for distances, or none. -/
def Dv (K : Nat → Prop) (w : World) (v : Value) (ls : List Nat) : Prop := (v = .pointer none ∧ ∀ x ∈ ls, x = 0) ∨ (TbK K w v ls ∧ ¬ ∀ x ∈ ls, x = 0)
theorem Dv.fr {K : Nat → Prop} {w w' : World} {v : Value} {ls : List Nat} (h : Dv K w v ls) (hf : Fr K w w') : Dv K w' v ls := h.imp id (fun h => ⟨h.1.fr hf, h.2⟩)
theorem TbK.mono {K K' : Nat → Prop} {w : World} {v : Value} {ls : List Nat} (h : TbK K w v ls) (hK : ∀ k, K k → K' k) : TbK K' w v ls := by
  obtain ⟨T, g, capg, e, h1, h2, k1, k2⟩ := h
  exact ⟨T, g, capg, e, h1, h2, hK _ k1, hK _ k2⟩
theorem Dv.mono {K K' : Nat → Prop} {w : World} {v : Value} {ls : List Nat} (h : Dv K w v ls) (hK : ∀ k, K k → K' k) : Dv K' w v ls := h.imp id (fun h => ⟨h.1.mono hK, h.2⟩)

/-- A new block is kept besides. -/
theorem St.widen {K : Nat → Prop} {R : Nat} {s : Value} {l : List Bool} {N most : Nat} {w : World} {r : Rv} (h : St K R s l N most w r) (o : Obj) : St (fun k => K k ∨ k = w.heap.size) R s l N most (w.alloc o) r := by
  have h1 := h.later (below1 w o)
  obtain ⟨tv, hx, ho, hn⟩ := h.has
  refine ⟨fun k hk => ?_, fun hk => ?_, h1.sl, fun a len cap b off e hl ha => Or.inl (h.slK a len cap b off e hl ha), h1.gl, Or.inl h.glK, h.pn, h.toks, h.le, tv, hx.alloc o, ho.alloc o, fun g hg hk => ?_⟩
  · rcases hk with hk | rfl
    · have := h.lt k hk; simp; omega
    · simp
  · rcases hk with hk | hk
    · exact h.ne hk
    · have := hx.lt; omega
  · rcases hk with hk | hk
    · exact hn g hg hk
    · have := (World.ownsRow.lt ho g hg).2; omega
theorem St.narrow {K K' : Nat → Prop} {R : Nat} {s : Value} {l : List Bool} {N most : Nat} {w w0 : World} {r r0 : Rv} (h : St K' R s l N most w r) (h0 : St K R s l N most w0 r0) (hK : ∀ k, K k → K' k) : St K R s l N most w r := by
  obtain ⟨tv, hx, ho, hn⟩ := h.has
  exact ⟨fun k hk => h.lt k (hK k hk), fun hk => h.ne (hK _ hk), h.sl, h0.slK, h.gl, h0.glK, h.pn, h.toks, h.le, tv, hx, ho, fun g hg hk => hn g hg (hK _ hk)⟩
theorem Fr.alloc (K : Nat → Prop) (w : World) (o : Obj) (hK : ∀ k, K k → k < w.heap.size) : Fr K w (w.alloc o) := Fr.of_below hK (below1 w o)
end Go.Proofs.YtnjlljdbghcobaaGreatDoor

/- Contract of inflate's reader: copied, walked. -/
namespace Go.Proofs.YtnjlljdbghcobaaGreatDoor
set_option maxRecDepth 100000
open Go.RowKit

/-- A turn of a block that is kept besides. -/
theorem St.aside {K K' : Nat → Prop} {R : Nat} {s : Value} {l : List Bool} {N most : Nat} {w w' w0 : World} {r r0 : Rv} (h : St K' R s l N most w r) (h0 : St K R s l N most w0 r0) (hK : ∀ k, K k → K' k) (b : Nat) (hb : K' b) (hnb : ¬ K b) (ho : Only b w w') : St K R s l N most w' r := by
  have h1 := h.narrow h0 hK
  have hf : Fr K w w' := Fr.of_only h1.lt hnb ho
  obtain ⟨tv, hx, hown, hn⟩ := h.has
  refine ⟨fun k hk => Nat.lt_of_lt_of_le (h1.lt k hk) ho.size, h1.ne, sl_keep h1.sl h1.slK hf, h1.slK, glob_keep h1.gl h1.glK hf, h1.glK, h1.pn, h1.toks, h1.le, tv, hx.only ho (fun e => h.ne (e ▸ hb)), ?_, fun g hg hk => hn g hg (hK _ hk)⟩
  obtain ⟨e1, e2⟩ := hown
  refine ⟨e1, ?_⟩
  rcases e2 with e | ⟨g, c, cur, rfl, hbg, hg, rr⟩
  · exact Or.inl e
  · exact Or.inr ⟨g, c, cur, rfl, hbg, (ho.block g (lt_of_block hg) (fun e => hn g rfl (e ▸ hb))).trans hg, rr⟩

set_option maxHeartbeats 4000000 in
theorem cop_a {K : Nat → Prop} {R : Nat} {s : Value} {l : List Bool} {N most : Nat} {w : World} {r : Rv} (y : Nat) (hy : 256 < y) (dv : Value) (ls : List Nat) (hD : Dv K w dv ls) (hS : St K R s l N most w r) (hl : Hid (N = l.length)) (hN : N ≤ 2251799813685248) (hc : scE (286 ≤ y) N r.p (Sy.at' Sy.lb (y - 257)) ≠ 0) (v : Value) (S : World → Prop) :
    Calls Tryz.prog 194 #[.pointer (some ⟨R, 0, none⟩), .int .i64 (y : Int), dv] w (Out K w (scE (286 ≤ y) N r.p (Sy.at' Sy.lb (y - 257))) v S) := by
  have HS := Lib.hid hS
  have hZ := Has.new w (.cells #[.int .i64 0, .int .i64 0, .int .u8 0] 59)
  have hSA := hS.widen (.cells #[.int .i64 0, .int .i64 0, .int .u8 0] 59)
  have hFA : Fr K w (w.alloc (.cells #[.int .i64 0, .int .i64 0, .int .u8 0] 59)) := Fr.alloc K w _ hS.lt
  have HDV := Lib.hid ((hD.fr hFA).mono (K' := fun k => K k ∨ k = w.heap.size) (fun k hk => Or.inl hk))
  have HSA := Lib.hid hSA
  have HFA := Lib.hid hFA
  have HZ := Lib.hid hZ
  have HL := Lib.hid (lscaled_any y hy hSA hl hN)
  generalize scE (286 ≤ y) N r.p (Sy.at' Sy.lb (y - 257)) = c at hc HL ⊢
  generalize Value.int .i64 ((Sy.at' Sy.lf (y - 257) + Hd.num l r.p (Sy.at' Sy.lb (y - 257)) : Nat) : Int) = v1 at HL
  generalize r.p + Sy.at' Sy.lb (y - 257) = p1 at HL
  clear hS hD hZ hSA hFA hy
  go_enter Tryz.func194, Tryz.ntmps194
  go_wp2_with fail
  refine HL.out.mono ?_
  clear HL
  intro e w1 ho
  obtain ⟨rfl, hf1⟩ := ho.bad hc
  exact ⟨rfl, Out.fault hc (HFA.out.trans (hf1.mono fun k hk => Or.inl hk))⟩

set_option maxHeartbeats 4000000 in
theorem cop_b {K : Nat → Prop} {R : Nat} {s : Value} {l : List Bool} {N most : Nat} {w : World} {r : Rv} (y : Nat) (hy : 256 < y) (dv : Value) (ls : List Nat) (hD : Dv K w dv ls) (hS : St K R s l N most w r) (hl : Hid (N = l.length)) (hN : N ≤ 2251799813685248) (hc : scE (286 ≤ y) N r.p (Sy.at' Sy.lb (y - 257)) = 0) (h0 : ∀ x ∈ ls, x = 0) (v : Value) (S : World → Prop) :
    Calls Tryz.prog 194 #[.pointer (some ⟨R, 0, none⟩), .int .i64 (y : Int), dv] w (Out K w 13 v S) := by
  obtain rfl : dv = .pointer none := by
    rcases hD with ⟨h, _⟩ | ⟨_, h⟩
    · exact h
    · exact absurd h0 h
  have HS := Lib.hid hS
  have hZ := Has.new w (.cells #[.int .i64 0, .int .i64 0, .int .u8 0] 59)
  have hSA := hS.widen (.cells #[.int .i64 0, .int .i64 0, .int .u8 0] 59)
  have hFA : Fr K w (w.alloc (.cells #[.int .i64 0, .int .i64 0, .int .u8 0] 59)) := Fr.alloc K w _ hS.lt
  have HDV := Lib.hid ((hD.fr hFA).mono (K' := fun k => K k ∨ k = w.heap.size) (fun k hk => Or.inl hk))
  have HSA := Lib.hid hSA
  have HFA := Lib.hid hFA
  have HZ := Lib.hid hZ
  have HL := Lib.hid (lscaled_any y hy hSA hl hN)
  rw [hc] at HL
  generalize hn : Sy.at' Sy.lf (y - 257) + Hd.num l r.p (Sy.at' Sy.lb (y - 257)) = n at HL
  generalize hp1 : r.p + Sy.at' Sy.lb (y - 257) = p1 at HL
  clear hn hp1 hc h0
  clear hS hD hZ hSA hFA hy
  go_enter Tryz.func194, Tryz.ntmps194
  go_wp2_with fail
  refine HL.out.mono ?_
  clear HL
  intro e w1 ho
  obtain ⟨rfl, hS1, hf1⟩ := ho.ok
  have HS1 := Lib.hid hS1
  have HF1 := Lib.hid hf1
  clear ho hS1 hf1
  go_wp2
  exact ⟨rfl, Out.fault (by decide) (HFA.out.trans (HF1.out.mono fun k hk => Or.inl hk))⟩

set_option maxHeartbeats 4000000 in
theorem cop_c {K : Nat → Prop} {R : Nat} {s : Value} {l : List Bool} {N most : Nat} {w : World} {r : Rv} (y : Nat) (hy : 256 < y) (dv : Value) (ls : List Nat) (hD : Dv K w dv ls) (hS : St K R s l N most w r) (hl : Hid (N = l.length)) (hN : N ≤ 2251799813685248) (hc : scE (286 ≤ y) N r.p (Sy.at' Sy.lb (y - 257)) = 0) (h0 : ¬ ∀ x ∈ ls, x = 0) (y2 q2 : Nat) (c2 : Int) (hr : Hd.rd ls l (r.p + Sy.at' Sy.lb (y - 257)) = (y2, q2, c2)) (h2 : c2 ≠ 0) (v : Value) (S : World → Prop) :
    Calls Tryz.prog 194 #[.pointer (some ⟨R, 0, none⟩), .int .i64 (y : Int), dv] w (Out K w c2 v S) := by
  have HS := Lib.hid hS
  have hZ := Has.new w (.cells #[.int .i64 0, .int .i64 0, .int .u8 0] 59)
  have hSA := hS.widen (.cells #[.int .i64 0, .int .i64 0, .int .u8 0] 59)
  have hFA : Fr K w (w.alloc (.cells #[.int .i64 0, .int .i64 0, .int .u8 0] 59)) := Fr.alloc K w _ hS.lt
  have HDV := Lib.hid ((hD.fr hFA).mono (K' := fun k => K k ∨ k = w.heap.size) (fun k hk => Or.inl hk))
  have HSA := Lib.hid hSA
  have HFA := Lib.hid hFA
  have HZ := Lib.hid hZ
  have HL := Lib.hid (lscaled_any y hy hSA hl hN)
  have hT : ∃ T : Nat, dv = .pointer (some ⟨T, 0, none⟩) ∧ Hid (TbK (fun k => K k ∨ k = w.heap.size) (w.alloc (.cells #[.int .i64 0, .int .i64 0, .int .u8 0] 59)) dv ls) := by
    rcases HDV.out with ⟨_, h⟩ | ⟨h, _⟩
    · exact absurd h h0
    · obtain ⟨T, g, capg, e, h'⟩ := h
      exact ⟨T, e, ⟨T, g, capg, e, h'⟩⟩
  obtain ⟨T, rfl, HT⟩ := hT
  rw [hc] at HL
  generalize hn : Sy.at' Sy.lf (y - 257) + Hd.num l r.p (Sy.at' Sy.lb (y - 257)) = n at HL
  generalize hp1 : r.p + Sy.at' Sy.lb (y - 257) = p1 at HL hr
  have HR := Lib.hid (fun _ : Unit => hr)
  clear hn hp1 hc h0 hr
  clear hS hD hZ hSA hFA hy
  go_enter Tryz.func194, Tryz.ntmps194
  go_wp2_with fail
  refine HL.out.mono ?_
  clear HL
  intro e w1 ho
  obtain ⟨rfl, hS1, hf1⟩ := ho.ok
  have HS1 := Lib.hid hS1
  have HF1 := Lib.hid hf1
  clear ho hS1 hf1
  have HY := Lib.hid (isym_any (.pointer (some ⟨T, 0, none⟩)) ls (HT.out.fr HF1.out) HS1.out hl hN y2 q2 c2 (HR.out ()))
  go_wp2_with fail
  refine HY.out.mono ?_
  clear HY
  intro e w2 ho
  obtain ⟨rfl, hf2⟩ := ho.bad h2
  exact ⟨rfl, Out.fault h2 (HFA.out.trans ((HF1.out.trans hf2).mono fun k hk => Or.inl hk))⟩

set_option maxHeartbeats 4000000 in
theorem cop_d {K : Nat → Prop} {R : Nat} {s : Value} {l : List Bool} {N most : Nat} {w : World} {r : Rv} (y : Nat) (hy : 256 < y) (dv : Value) (ls : List Nat) (hD : Dv K w dv ls) (hS : St K R s l N most w r) (hl : Hid (N = l.length)) (hN : N ≤ 2251799813685248) (hc : scE (286 ≤ y) N r.p (Sy.at' Sy.lb (y - 257)) = 0) (h0 : ¬ ∀ x ∈ ls, x = 0) (y2 q2 : Nat) (hr : Hd.rd ls l (r.p + Sy.at' Sy.lb (y - 257)) = (y2, q2, 0)) (h2 : scE (30 ≤ y2) N q2 (Sy.at' Sy.db y2) ≠ 0) (v : Value) (S : World → Prop) :
    Calls Tryz.prog 194 #[.pointer (some ⟨R, 0, none⟩), .int .i64 (y : Int), dv] w (Out K w (scE (30 ≤ y2) N q2 (Sy.at' Sy.db y2)) v S) := by
  have HS := Lib.hid hS
  have hZ := Has.new w (.cells #[.int .i64 0, .int .i64 0, .int .u8 0] 59)
  have hSA := hS.widen (.cells #[.int .i64 0, .int .i64 0, .int .u8 0] 59)
  have hFA : Fr K w (w.alloc (.cells #[.int .i64 0, .int .i64 0, .int .u8 0] 59)) := Fr.alloc K w _ hS.lt
  have HDV := Lib.hid ((hD.fr hFA).mono (K' := fun k => K k ∨ k = w.heap.size) (fun k hk => Or.inl hk))
  have HSA := Lib.hid hSA
  have HFA := Lib.hid hFA
  have HZ := Lib.hid hZ
  have HL := Lib.hid (lscaled_any y hy hSA hl hN)
  have hT : ∃ T : Nat, dv = .pointer (some ⟨T, 0, none⟩) ∧ Hid (TbK (fun k => K k ∨ k = w.heap.size) (w.alloc (.cells #[.int .i64 0, .int .i64 0, .int .u8 0] 59)) dv ls) := by
    rcases HDV.out with ⟨_, h⟩ | ⟨h, _⟩
    · exact absurd h h0
    · obtain ⟨T, g, capg, e, h'⟩ := h
      exact ⟨T, e, ⟨T, g, capg, e, h'⟩⟩
  obtain ⟨T, rfl, HT⟩ := hT
  rw [hc] at HL
  generalize hn : Sy.at' Sy.lf (y - 257) + Hd.num l r.p (Sy.at' Sy.lb (y - 257)) = n at HL
  generalize hp1 : r.p + Sy.at' Sy.lb (y - 257) = p1 at HL hr
  have HR := Lib.hid (fun _ : Unit => hr)
  obtain ⟨c, hcc⟩ : ∃ c, c = scE (30 ≤ y2) N q2 (Sy.at' Sy.db y2) := ⟨_, rfl⟩
  rw [← hcc] at h2 ⊢
  have HCC := Lib.hid (fun _ : Unit => hcc)
  clear hn hp1 hc h0 hr hcc
  clear hS hD hZ hSA hFA hy
  go_enter Tryz.func194, Tryz.ntmps194
  go_wp2_with fail
  refine HL.out.mono ?_
  clear HL
  intro e w1 ho
  obtain ⟨rfl, hS1, hf1⟩ := ho.ok
  have HS1 := Lib.hid hS1
  have HF1 := Lib.hid hf1
  clear ho hS1 hf1
  have HY := Lib.hid (isym_any (.pointer (some ⟨T, 0, none⟩)) ls (HT.out.fr HF1.out) HS1.out hl hN y2 q2 0 (HR.out ()))
  go_wp2_with fail
  refine HY.out.mono ?_
  clear HY
  intro e w2 ho
  obtain ⟨rfl, hS2, hf2⟩ := ho.ok
  have HS2 := Lib.hid hS2
  have HF2 := Lib.hid hf2
  clear ho hS2 hf2
  have hd := dscaled_any y2 HS2.out hl hN
  simp only at hd
  rw [← HCC.out ()] at hd
  generalize Value.int .i64 ((Sy.at' Sy.df y2 + Hd.num l q2 (Sy.at' Sy.db y2) : Nat) : Int) = v3 at hd
  generalize q2 + Sy.at' Sy.db y2 = q3 at hd
  have HD := Lib.hid hd
  clear hd
  go_wp2_with fail
  refine HD.out.mono ?_
  clear HD
  intro e w3 ho
  obtain ⟨rfl, hf3⟩ := ho.bad h2
  exact ⟨rfl, Out.fault h2 (HFA.out.trans (((HF1.out.trans HF2.out).trans hf3).mono fun k hk => Or.inl hk))⟩

set_option maxHeartbeats 4000000 in
theorem cop_e {K : Nat → Prop} {R : Nat} {s : Value} {l : List Bool} {N most : Nat} {w : World} {r : Rv} (y : Nat) (hy : 256 < y) (dv : Value) (ls : List Nat) (hD : Dv K w dv ls) (hS : St K R s l N most w r) (hl : Hid (N = l.length)) (hN : N ≤ 2251799813685248) (hc : scE (286 ≤ y) N r.p (Sy.at' Sy.lb (y - 257)) = 0) (h0 : ¬ ∀ x ∈ ls, x = 0) (y2 q2 : Nat) (hr : Hd.rd ls l (r.p + Sy.at' Sy.lb (y - 257)) = (y2, q2, 0)) (h2 : scE (30 ≤ y2) N q2 (Sy.at' Sy.db y2) = 0) :
    Calls Tryz.prog 194 #[.pointer (some ⟨R, 0, none⟩), .int .i64 (y : Int), dv] w (Out K w 0 (tkv ⟨Sy.at' Sy.lf (y - 257) + Hd.num l r.p (Sy.at' Sy.lb (y - 257)), Sy.at' Sy.df y2 + Hd.num l q2 (Sy.at' Sy.db y2), 0⟩) (fun w' => St K R s l N most w' { r with p := q2 + Sy.at' Sy.db y2 })) := by
  have HS := Lib.hid hS
  have hZ := Has.new w (.cells #[.int .i64 0, .int .i64 0, .int .u8 0] 59)
  have hSA := hS.widen (.cells #[.int .i64 0, .int .i64 0, .int .u8 0] 59)
  have hFA : Fr K w (w.alloc (.cells #[.int .i64 0, .int .i64 0, .int .u8 0] 59)) := Fr.alloc K w _ hS.lt
  have HDV := Lib.hid ((hD.fr hFA).mono (K' := fun k => K k ∨ k = w.heap.size) (fun k hk => Or.inl hk))
  have HSA := Lib.hid hSA
  have HFA := Lib.hid hFA
  have HZ := Lib.hid hZ
  have HL := Lib.hid (lscaled_any y hy hSA hl hN)
  have hT : ∃ T : Nat, dv = .pointer (some ⟨T, 0, none⟩) ∧ Hid (TbK (fun k => K k ∨ k = w.heap.size) (w.alloc (.cells #[.int .i64 0, .int .i64 0, .int .u8 0] 59)) dv ls) := by
    rcases HDV.out with ⟨_, h⟩ | ⟨h, _⟩
    · exact absurd h h0
    · obtain ⟨T, g, capg, e, h'⟩ := h
      exact ⟨T, e, ⟨T, g, capg, e, h'⟩⟩
  obtain ⟨T, rfl, HT⟩ := hT
  rw [hc] at HL
  generalize hn : Sy.at' Sy.lf (y - 257) + Hd.num l r.p (Sy.at' Sy.lb (y - 257)) = n at HL ⊢
  generalize hp1 : r.p + Sy.at' Sy.lb (y - 257) = p1 at HL hr
  have HR := Lib.hid (fun _ : Unit => hr)
  have HCC := Lib.hid (fun _ : Unit => h2)
  obtain ⟨d, hd⟩ : ∃ d, d = Sy.at' Sy.df y2 + Hd.num l q2 (Sy.at' Sy.db y2) := ⟨_, rfl⟩
  obtain ⟨q3, hq3⟩ : ∃ q3, q3 = q2 + Sy.at' Sy.db y2 := ⟨_, rfl⟩
  rw [← hd, ← hq3]
  have HDD := Lib.hid (fun _ : Unit => hd)
  have HQ3 := Lib.hid (fun _ : Unit => hq3)
  unfold tkv
  clear hn hp1 hc h0 hr h2 hd hq3
  clear hS hD hZ hSA hFA hy
  go_enter Tryz.func194, Tryz.ntmps194
  go_wp2_with fail
  refine HL.out.mono ?_
  clear HL
  intro e w1 ho
  obtain ⟨rfl, hS1, hf1⟩ := ho.ok
  have HS1 := Lib.hid hS1
  have HF1 := Lib.hid hf1
  clear ho hS1 hf1
  have HY := Lib.hid (isym_any (.pointer (some ⟨T, 0, none⟩)) ls (HT.out.fr HF1.out) HS1.out hl hN y2 q2 0 (HR.out ()))
  go_wp2_with fail
  refine HY.out.mono ?_
  clear HY
  intro e w2 ho
  obtain ⟨rfl, hS2, hf2⟩ := ho.ok
  have HS2 := Lib.hid hS2
  have HF2 := Lib.hid hf2
  clear ho hS2 hf2
  have hd := dscaled_any y2 HS2.out hl hN
  simp only at hd
  rw [HCC.out (), ← HDD.out (), ← HQ3.out ()] at hd
  have HD := Lib.hid hd
  clear hd
  go_wp2_with fail
  refine HD.out.mono ?_
  clear HD
  intro e w3 ho
  obtain ⟨rfl, hS3, hf3⟩ := ho.ok
  have hf := (HF1.out.trans HF2.out).trans hf3
  have hz : Has w3 w.heap.size (.cells #[.int .i64 0, .int .i64 0, .int .u8 0] 59 (0, 0)) := (hf.block _ (Or.inr rfl)).trans HZ.out
  obtain ⟨c0, c1, c2⟩ := tk_cells hz
  have z0 := hz.free 0
  have z1 := hz.free 1
  have z2 := hz.free 2
  have HS3 := Lib.hid hS3
  have HF := Lib.hid hf
  have HZ3 := Lib.hid hz
  have HKW : Hid (¬ K w.heap.size) := fun hk => Nat.lt_irrefl _ (HS.out.lt _ hk)
  clear ho hS3 hf3 hf hz
  go_wp2
  have O1 := only_set w3 w.heap.size 0 (.int .i64 (n : Int))
  have O2 := only_set (w3.setCell ⟨w.heap.size, 0, none⟩ (.int .i64 (n : Int))) w.heap.size 1 (.int .i64 (d : Int))
  have O3 := only_set ((w3.setCell ⟨w.heap.size, 0, none⟩ (.int .i64 (n : Int))).setCell ⟨w.heap.size, 1, none⟩ (.int .i64 (d : Int))) w.heap.size 2 (.int .u8 0)
  have OO := (O1.trans O2).trans O3
  refine bodyPost_ret (v := .agg #[.int .i64 (n : Int), .int .i64 (d : Int), .int .u8 0]) ?_ rfl (Out.intro ((HFA.out.trans (HF.out.mono fun k hk => Or.inl hk)).trans (Fr.of_only (fun k hk => HS3.out.lt k (Or.inl hk)) HKW.out OO)) (HS3.out.aside HS.out (fun k hk => Or.inl hk) w.heap.size (Or.inr rfl) HKW.out OO))
  have e0 := ((HZ3.out.setSelf (i := 0) (.int .i64 (n : Int))).setSelf (i := 1) (.int .i64 (d : Int))).setSelf (i := 2) (.int .u8 0)
  simp at e0
  obtain ⟨g0, g1, g2⟩ := tk_cells e0
  simp [results, Tryz.results194, go_sem, g0, g1, g2]

theorem copied_any {K : Nat → Prop} {R : Nat} {s : Value} {l : List Bool} {N most : Nat} {w : World} {r : Rv} (y : Nat) (hy : 256 < y) (dv : Value) (ls : List Nat) (hD : Dv K w dv ls) (hS : St K R s l N most w r) (hl : Hid (N = l.length)) (hN : N ≤ 2251799813685248) :
    Calls Tryz.prog 194 #[.pointer (some ⟨R, 0, none⟩), .int .i64 (y : Int), dv] w (Out K w (If.copt l ls y r.p).2.2 (tkv (If.copt l ls y r.p).1) (fun w' => St K R s l N most w' { r with p := (If.copt l ls y r.p).2.1 })) := by
  have hl' := hl.out
  by_cases ha : scE (286 ≤ y) N r.p (Sy.at' Sy.lb (y - 257)) = 0
  · have ha' := ha
    unfold scE at ha
    have h1 : ¬ 286 ≤ y := fun h => by rw [if_pos h] at ha; simp at ha
    rw [if_neg h1] at ha
    have h2 : ¬ N < r.p + Sy.at' Sy.lb (y - 257) := fun h => by rw [if_pos h] at ha; simp at ha
    unfold If.copt
    rw [if_neg h1, if_neg (by rw [← hl']; exact h2)]
    by_cases h3 : ∀ x ∈ ls, x = 0
    · rw [if_pos h3]; exact cop_b y hy dv ls hD hS hl hN ha' h3 _ _
    rw [if_neg h3]
    generalize hr : Hd.rd ls l (r.p + Sy.at' Sy.lb (y - 257)) = rr
    obtain ⟨y2, q2, c2⟩ := rr
    simp only
    by_cases h4 : c2 ≠ 0
    · rw [if_pos h4]; exact cop_c y hy dv ls hD hS hl hN ha' h3 y2 q2 c2 hr h4 _ _
    rw [if_neg h4]
    obtain rfl : c2 = 0 := by simpa using h4
    by_cases hb : scE (30 ≤ y2) N q2 (Sy.at' Sy.db y2) = 0
    · have hb' := hb
      unfold scE at hb
      have h5 : ¬ 30 ≤ y2 := fun h => by rw [if_pos h] at hb; simp at hb
      rw [if_neg h5] at hb
      have h6 : ¬ N < q2 + Sy.at' Sy.db y2 := fun h => by rw [if_pos h] at hb; simp at hb
      rw [if_neg h5, if_neg (by rw [← hl']; exact h6)]
      exact cop_e y hy dv ls hD hS hl hN ha' h3 y2 q2 hr hb'
    · have e := cop_d y hy dv ls hD hS hl hN ha' h3 y2 q2 hr hb
      unfold scE at e hb
      by_cases h5 : 30 ≤ y2
      · rw [if_pos h5] at e ⊢
        exact e _ _
      · rw [if_neg h5] at e hb ⊢
        by_cases h6 : N < q2 + Sy.at' Sy.db y2
        · rw [if_pos h6] at e
          rw [if_pos (by rw [← hl']; exact h6)]
          exact e _ _
        · rw [if_neg h6] at hb; exact absurd rfl hb
  · have e : (If.copt l ls y r.p).2.2 = scE (286 ≤ y) N r.p (Sy.at' Sy.lb (y - 257)) := by
      unfold If.copt scE
      by_cases h1 : 286 ≤ y
      · rw [if_pos h1, if_pos h1]
      · rw [if_neg h1, if_neg h1]
        unfold scE at ha
        rw [if_neg h1] at ha
        by_cases h2 : N < r.p + Sy.at' Sy.lb (y - 257)
        · rw [if_pos h2, if_pos (by rw [← hl']; exact h2)]
        · rw [if_neg h2] at ha; exact absurd rfl ha
    rw [e]
    exact cop_a y hy dv ls hD hS hl hN ha _ _
end Go.Proofs.YtnjlljdbghcobaaGreatDoor
