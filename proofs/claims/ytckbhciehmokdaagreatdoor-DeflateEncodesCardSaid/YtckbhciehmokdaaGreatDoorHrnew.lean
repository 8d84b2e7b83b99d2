import Derived.Test.YtckbhciehmokdaaGreatDoorHrcodes
import Derived.Test.YtckbhciehmokdaaGreatDoorItake
import Derived.Test.YtckbhciehmokdaaGreatDoorHrget
import Derived.Test.YtckbhciehmokdaaGreatDoorQtail
import Derived.Test.YtckbhciehmokdaaGreatDoorDrng
import Derived.BigRegion
import Derived.Deep.RegionWith
import Derived.Deep.DeepCutAuto
namespace Go.Proofs.YtckbhciehmokdaaGreatDoor
set_option maxRecDepth 100000
set_option maxHeartbeats 8000000
open Go.RowKit
theorem zl_cell {w : World} {a : Option Addr} {len cap : Nat} {zs : List Int} (h : Zl w (.slice a len cap) zs) (k : Nat) (hk : k < zs.length) : ∃ b off, a = some ⟨b, off, none⟩ /\ b < w.heap.size /\ len = zs.length /\ w.cell? ⟨b, off + k, none⟩ = some (.int .i64 (zs[k]?.getD 0)) := by
 obtain ⟨a', len', cap', e, h1, h2, h3, h4⟩ := h
 cases e
 obtain ⟨b, off, rfl, hb, hc⟩ := h4 (by omega)
 exact ⟨b, off, rfl, hb, h1, hc k (by omega)⟩
def cw (ls : List Nat) (x : Nat) : List Bool := Bs.bitsOf (turned ((Hf.codes ls)[x]?.getD 0) (Hf.ln ls x)) (Hf.ln ls x)
theorem il_cell {lo : Nat} {w : World} {v : Value} {xs : List Nat} (h : Il lo w v xs) (h0 : 0 < xs.length) : ∃ g cap, v = .slice (some ⟨g, 0, none⟩) xs.length cap /\ lo <= g /\ Rw w g xs.length (fun i => xs[i]?.getD 0) := by
 rcases h with ⟨rfl, rfl⟩ | ⟨g, cap, e, _, hg, hr⟩
 ·simp at h0
 ·exact ⟨g, cap, e, hg, hr⟩
theorem code_fits {zs : List Int} (hf : Fit zs) (x : Nat) (hx : x < zs.length) (h0 : zs[x]?.getD 0 ≠ 0) : (Hf.codes (nat zs))[x]?.getD 0 < 2 ^ Hf.ln (nat zs) x /\ Hf.ln (nat zs) x <= 15 /\ 0 < Hf.ln (nat zs) x := by
 have hv := hf.valid
 have hg := hv.get x hx
 have h15 := hv.le x (by rw [nat_length]; exact hx)
 have hpos : 0 < Hf.ln (nat zs) x := by show 0 < (nat zs)[x]?.getD 0; omega
 obtain ⟨k, hk, rfl⟩ := Hf.sy_of (nat zs) x (by rw [nat_length]; exact hx) hpos h15
 rw [Hf.codes_get _ _ hk]
 exact ⟨Hf.cd_lt _ _ hk hf.pf, h15, hpos⟩
end Go.Proofs.YtckbhciehmokdaaGreatDoor
namespace Go.Proofs.YtckbhciehmokdaaGreatDoor.Ls
set_option maxRecDepth 100000
set_option maxHeartbeats 8000000
open Go.RowKit
structure Rw (w : World) (g n : Nat) (d : Nat -> Nat) : Prop where
 lt : g < w.heap.size
 cell : ∀ i, i < n -> w.cell? ⟨g, i, none⟩ = some (.pointer (some ⟨d i, 0, none⟩))
 free : ∀ i, i < n -> w.frozen? ⟨g, i, none⟩ = false
theorem Rw.drewN {w : World} {g n : Nat} {d : Nat -> Nat} (h : Rw w g n d) (k : Nat) : Rw (w.drewN k) g n d := ⟨h.lt, h.cell, h.free⟩
theorem Rw.swap {w : World} {g n : Nat} {d : Nat -> Nat} (h : Rw w g n d) (i j : Nat) (hi : i < n) (hj : j < n) (hne : i ≠ j) :
  Rw ((w.setCell ⟨g, i, none⟩ (.pointer (some ⟨d j, 0, none⟩))).setCell ⟨g, j, none⟩ (.pointer (some ⟨d i, 0, none⟩))) g n (St.sw d i j) := by
 refine ⟨by simpa using h.lt, fun k hk => ?_, fun k hk => by rw [World.frozen?_setCell, World.frozen?_setCell]; exact h.free k hk⟩
 unfold St.sw
 by_cases h1 : k = j
 ·subst h1
  rw [if_neg (by omega), if_pos rfl]
  refine World.cell?_setCell_same' _ _ _ ?_
  rw [World.cell?_setCell_other _ _ _ _ (addr_ne g (by omega)), h.cell k hk]; rfl
 ·rw [World.cell?_setCell_other _ _ _ _ (addr_ne g (by omega))]
  by_cases h2 : k = i
  ·subst h2
   rw [if_pos rfl]
   exact World.cell?_setCell_same' _ _ _ (by rw [h.cell k hk]; rfl)
  ·rw [if_neg h2, if_neg h1, World.cell?_setCell_other _ _ _ _ (addr_ne g (by omega))]
   exact h.cell k hk
def SortPost (g n : Nat) (w : World) (Q : (Nat -> Nat) -> Prop) (e : Ending) (w' : World) : Prop :=
 e = .returned (.tuple #[]) /\ ∃ d', Rw w' g n d' /\ Only g w w' /\ Q d'
theorem row_exch_step {w w1 : World} {g n : Nat} {d : Nat -> Nat} {a b k : Nat} (h : Rw w1 g n (St.exch d a b k)) (ho : Only g w w1) (hab : a + k < b) (hn : b + k < n) :
  Rw (((w1.setCell ⟨g, a + k, none⟩ (.pointer (some ⟨St.exch d a b k (b + k), 0, none⟩))).setCell ⟨g, b + k, none⟩ (.pointer (some ⟨St.exch d a b k (a + k), 0, none⟩))).drew) g n (St.exch d a b (k + 1)) /\
   Only g w (((w1.setCell ⟨g, a + k, none⟩ (.pointer (some ⟨St.exch d a b k (b + k), 0, none⟩))).setCell ⟨g, b + k, none⟩ (.pointer (some ⟨St.exch d a b k (a + k), 0, none⟩))).drew) := by
 refine ⟨?_, only_drew ((ho.trans (only_set _ _ _ _)).trans (only_set _ _ _ _))⟩
 rw [St.exch_succ _ _ _ _ hab]
 exact (h.swap (a + k) (b + k) (by omega) hn (by omega)).drewN 1
theorem swapRange_any (g cap n a b m : Nat) (F : Value) (d : Nat -> Nat) (w : World) (hr : Rw w g n d) (hn : n <= 288) (hab : a + m <= b) (hbn : b + m <= n) :
  Calls Tryz.prog 232 #[.slice (some ⟨g, 0, none⟩) n cap, .int .i64 (a : Int), .int .i64 (b : Int), .int .i64 (m : Int), F] w (SortPost g n w (fun d' => d' = St.exch d a b m)) := by
 have HR := LH hr
 clear hr
 go_enter Tryz.func232, Tryz.ntmps232
 go_wp2
 go_loopw [10] (fun s10 wr => ∃ k : Nat, k <= m /\ s10 = .int .i64 k /\ Hid (Rw wr g n (St.exch d a b k)) /\ Hid (Only g w wr)) (fun s _ => m - (intOf s).toNat)
 case atStart => exact ⟨0, Nat.zero_le _, rfl, by show Rw _ _ _ _; rw [St.exch_zero]; exact HR.out, Only.refl _ _⟩
 case round =>
  obtain ⟨k, hk, rfl, KR, KO⟩ := hrel
  by_cases hlt : k < m
  ·have c1 := KR.out.cell (a + k) (by omega)
   have c2 := KR.out.cell (b + k) (by omega)
   have f1 := KR.out.free (a + k) (by omega)
   have f2 := KR.out.free (b + k) (by omega)
   obtain ⟨x, hx⟩ : ∃ x, x = St.exch d a b k (a + k) := ⟨_, rfl⟩
   obtain ⟨y, hy⟩ : ∃ y, y = St.exch d a b k (b + k) := ⟨_, rfl⟩
   have st := row_exch_step KR.out KO.out (show a + k < b by omega) (show b + k < n by omega)
   rw [<- hx, <- hy] at st
   rw [<- hx] at c1
   rw [<- hy] at c2
   have ST := LH st
   have hne : ¬ a + k = b + k := by omega
   have hne2 : ¬ b + k = a + k := by omega
   clear hx hy st
   go_wp2
   go_region
   go_wp2
   all_goals
    go_roundw
    case rel => exact ⟨k + 1, by omega, by go_num, ST.out.1, ST.out.2⟩
    case measure => simp [intOf]; omega
  ·obtain rfl : k = m := by omega
   go_wp2
   go_end0
   exact ⟨rfl, _, KR.out, KO.out, rfl⟩
end Go.Proofs.YtckbhciehmokdaaGreatDoor.Ls
namespace Go.Proofs.YtckbhciehmokdaaGreatDoor
set_option maxRecDepth 100000
set_option maxHeartbeats 8000000
open Go.RowKit
def lastOf (ls : List Nat) (xs : List Nat) : Nat := (xs.getLast?.map (Hf.ln ls)).getD 0
theorem ordl_usedL (ls : List Nat) (h15 : ∀ i, i < ls.length -> Hf.ln ls i <= 15) (x : Nat) : x ∈ Hf.ordl ls ↔ x ∈ Hf.usedL ls ls.length := by
 unfold Hf.ordl
 rw [Hf.mem_ordTo, Hf.mem_usedL]
 constructor
 ·rintro ⟨h1, h2, _⟩; exact ⟨h1, by omega⟩
 ·rintro ⟨h1, h2⟩; exact ⟨h1, by omega, h15 x h1⟩
theorem one_of_nodup {xs ys : List Nat} (hx : xs.Nodup) (h : ∀ x, x ∈ xs ↔ x ∈ ys) {y : Nat} (hy : ys = [y]) : xs = [y] := by
 subst hy
 match xs, hx, h with
 | [], _, h => exact absurd ((h y).2 (List.mem_singleton.2 rfl)) (by simp)
 | [a], _, h => rw [List.mem_singleton.1 ((h a).1 (List.mem_singleton.2 rfl))]
 | a :: b :: r, hx, h =>
  have ha := List.mem_singleton.1 ((h a).1 (by simp))
  have hb := List.mem_singleton.1 ((h b).1 (by simp))
  rw [ha, hb] at hx
  simp at hx
theorem ordl_nodup (ls : List Nat) : (Hf.ordl ls).Nodup := by
 refine (Hf.ordTo_sorted ls 15).imp ?_
 intro a b h e
 subst e
 unfold Hf.Lt at h
 omega
theorem usedL_nodup (ls : List Nat) (k : Nat) : (Hf.usedL ls k).Nodup := (Hf.usedL_sorted ls k).imp fun h e => by omega
theorem lone_iff (ls : List Nat) (h15 : ∀ i, i < ls.length -> Hf.ln ls i <= 15) : Lone ls ↔ ((Hf.usedL ls ls.length).length = 1 /\ lastOf ls (Hf.usedL ls ls.length) = 1) := by
 unfold Lone lastOf
 constructor
 ·rintro ⟨h1, h2⟩
  obtain ⟨x, hx⟩ := List.length_eq_one_iff.1 h1
  have hu := one_of_nodup (usedL_nodup ls ls.length) (fun y => (ordl_usedL ls h15 y).symm) hx
  rw [hu]
  refine ⟨rfl, ?_⟩
  unfold Hf.sy at h2
  rw [hx] at h2
  exact h2
 ·rintro ⟨h1, h2⟩
  obtain ⟨x, hx⟩ := List.length_eq_one_iff.1 h1
  have ho := one_of_nodup (ordl_nodup ls) (ordl_usedL ls h15) hx
  rw [hx] at h2
  refine ⟨by rw [ho]; rfl, ?_⟩
  unfold Hf.sy
  rw [ho]
  exact h2
theorem usedL_step (ls : List Nat) (k x n : Nat) (hx : x = Hf.ln ls k) (hn : n = (Hf.usedL ls k).length) : (Hf.usedL ls (k + 1)).length = n + (if 0 < x then 1 else 0) := by
 simp only [Hf.usedL]
 rw [<- hx, List.length_append, <- hn]
 by_cases h : x = 0
 ·rw [if_pos h, if_neg (by omega)]; rfl
 ·rw [if_neg h, if_pos (by omega)]; rfl
theorem lastOf_step (ls : List Nat) (k x n : Nat) (hx : x = Hf.ln ls k) (hn : n = lastOf ls (Hf.usedL ls k)) : lastOf ls (Hf.usedL ls (k + 1)) = if 0 < x then x else n := by
 simp only [Hf.usedL]
 rw [<- hx]
 by_cases h : x = 0
 ·rw [if_pos h, if_neg (by omega), List.append_nil, hn]
 ·rw [if_neg h, if_pos (by omega)]
  unfold lastOf
  simp [hx]
theorem rnew_any (zs : List Int) (s : Value) (w : World) (hz : Zl w s zs) : Calls Tryz.prog 126 #[s] w fun e w' => e = .returned (.int .i64 (newE zs)) /\ w = w' := by
 have HC := LH (rcheck_any zs s w hz)
 have HZ := LH hz
 obtain ⟨a, len, cap, rfl, hlen⟩ := hz.shape
 have HL := LH hlen
 by_cases h12 : chk zs = 12
 ·have hv : Valid zs := Fit.valid (Or.inr h12)
  have hl9 : len <= 288 := by have := hv.2.1; omega
  have HE : Hid (newE zs = if (Hf.usedL (nat zs) (nat zs).length).length = 1 /\ lastOf (nat zs) (Hf.usedL (nat zs) (nat zs).length) = 1 then 0 else 12) := by
   show _ = _
   unfold newE
   rw [h12]
   by_cases hl : Lone (nat zs)
   ·rw [if_pos ⟨rfl, hl⟩, if_pos ((lone_iff _ fun i hi => hv.le i hi).1 hl)]
   ·rw [if_neg (fun h => hl h.2), if_neg (fun h => hl ((lone_iff _ fun i hi => hv.le i hi).2 h))]
  rw [h12] at HC
  have HV := LH hv
  obtain ⟨r, hr⟩ : ∃ r, r = newE zs := ⟨_, rfl⟩
  rw [<- hr] at HE ⊢
  clear hz hlen h12 hv hr
  go_enter Tryz.func126, Tryz.ntmps126
  go_wp2_with fail
  refine HC.out.mono ?_
  clear HC
  rintro e w' ⟨rfl, rfl⟩
  go_wp2_with fail
  go_loop [4, 5, 6] (fun s4 s5 s6 => ∃ k u o : Nat, k <= len /\ s6 = .int .i64 k /\ s4 = .int .i64 u /\ s5 = .int .i64 o /\ u <= k /\ o <= 15 /\ Hid (Unit -> u = (Hf.usedL (nat zs) k).length) /\ Hid (Unit -> o = lastOf (nat zs) (Hf.usedL (nat zs) k))) (fun _ _ s => len - (intOf s).toNat)
  case atStart => exact ⟨0, 0, 0, Nat.zero_le _, rfl, rfl, rfl, Nat.le_refl _, by omega, (fun _ => rfl : Unit -> _), (fun _ => rfl : Unit -> _)⟩
  case round =>
   obtain ⟨k, u, o, hk, rfl, rfl, rfl, huk, ho, HU, HO⟩ := hrel
   by_cases hlt : k < len
   ·obtain ⟨b, off, rfl, _, hq, hc⟩ := zl_cell HZ.out k (by have := HL.out; omega)
    have hg := HV.out.get k (by have := HL.out; omega)
    obtain ⟨x, hx⟩ : ∃ x : Nat, x = (nat zs)[k]?.getD 0 := ⟨_, rfl⟩
    rw [hg, <- hx] at hc
    have hx15 : x <= 15 := by rw [hx]; exact HV.out.le k (by rw [nat_length]; have := HL.out; omega)
    have HX := LH hx
    clear hq hg hx
    have j1 : (0 : Int) <= (k : Int) := by omega
    have j2 : (k : Int) < (len : Int) := by omega
    have NU : Hid (Unit -> u + (if 0 < x then 1 else 0) = (Hf.usedL (nat zs) (k + 1)).length) := fun _ => (usedL_step (nat zs) k x u HX.out (HU.out ())).symm
    have NO : Hid (Unit -> (if 0 < x then x else o) = lastOf (nat zs) (Hf.usedL (nat zs) (k + 1))) := fun _ => (lastOf_step (nat zs) k x o HX.out (HO.out ())).symm
    by_cases h0 : 0 < x
    ·rw [if_pos h0] at NU NO
     have d1 : decide ((0 : Int) < (x : Int)) = true := decide_eq_true (by omega)
     have d2 : decide (0 < x) = true := decide_eq_true h0
     go_wp2
     go_round
     case rel => exact ⟨k + 1, u + 1, x, by omega, by go_num, by go_num, rfl, by omega, hx15, NU, NO⟩
     case measure => simp [intOf]; omega
    ·rw [if_neg h0] at NU NO
     have d1 : decide ((0 : Int) < (x : Int)) = false := decide_eq_false (by omega)
     have d2 : decide (0 < x) = false := decide_eq_false h0
     go_wp2
     go_round
     case rel => exact ⟨k + 1, u, o, by omega, by go_num, rfl, rfl, by omega, ho, NU, NO⟩
     case measure => simp [intOf]; omega
   ·obtain rfl : k = len := by omega
    have e1 : u = (Hf.usedL (nat zs) (nat zs).length).length := by rw [HU.out (), nat_length, HL.out]
    have e2 : o = lastOf (nat zs) (Hf.usedL (nat zs) (nat zs).length) := by rw [HO.out (), nat_length, HL.out]
    have HE2 : Hid (r = if u = 1 /\ o = 1 then 0 else 12) := by rw [e1, e2]; exact HE.out
    clear e1 e2 HE HU HO
    by_cases hu : u = 1
    ·by_cases ho1 : o = 1
     ·have hr : Hid (r = 0) := by have := HE2.out; rw [if_pos ⟨hu, ho1⟩] at this; exact this
      subst hu ho1
      clear HE2
      go_wp2
      go_ret
      exact ⟨by rw [hr.out]; rfl, rfl⟩
     ·have hr : Hid (r = 12) := by have := HE2.out; rw [if_neg (fun h => ho1 h.2)] at this; exact this
      have d2 : ((o : Int) == 1) = false := by rw [beq_eq_false_iff_ne]; omega
      subst hu
      clear HE2
      go_wp2
      go_ret
      exact ⟨by rw [hr.out]; rfl, rfl⟩
    ·have hr : Hid (r = 12) := by have := HE2.out; rw [if_neg (fun h => hu h.1)] at this; exact this
     have d1 : ((u : Int) == 1) = false := by rw [beq_eq_false_iff_ne]; omega
     clear HE2
     go_wp2
     go_ret
     exact ⟨by rw [hr.out]; rfl, rfl⟩
 ·have HE : newE zs = chk zs := by unfold newE; rw [if_neg (fun h => h12 h.1)]
  rw [HE]
  obtain ⟨c, hc⟩ : ∃ c, c = chk zs := ⟨_, rfl⟩
  rw [<- hc] at HC h12 ⊢
  have d1 : (c == 12) = false := by rw [beq_eq_false_iff_ne]; exact h12
  clear hz hlen hc HE
  go_enter Tryz.func126, Tryz.ntmps126
  go_wp2_with fail
  refine HC.out.mono ?_
  clear HC
  rintro e w' ⟨rfl, rfl⟩
  go_wp2_with fail
  refine wp_loop_rounds 1 ?_
  rw [rounds_succ]
  by_cases h0 : 0 < len
  ·have d2 : decide ((0 : Int) < (len : Int)) = true := decide_eq_true (by omega)
   go_wp2
   go_ret
   exact ⟨rfl, rfl⟩
  ·have d2 : decide ((0 : Int) < (len : Int)) = false := decide_eq_false (by omega)
   go_wp2
   go_ret
   exact ⟨rfl, rfl⟩
end Go.Proofs.YtckbhciehmokdaaGreatDoor
