import Derived.Test.YtckbhciehmokdaaGreatDoorSref
import Derived.Test.YtckbhciehmokdaaGreatDoorHcodes
import Derived.Test.YtckbhciehmokdaaGreatDoorQtail
import Derived.Test.YtckbhciehmokdaaGreatDoorIfix
import Derived.Test.YtckbhciehmokdaaGreatDoorIcau
import Derived.Test.YtckbhciehmokdaaGreatDoorKrtake
import Derived.Test.YtckbhciehmokdaaGreatDoorJget
import Derived.Test.YtckbhciehmokdaaGreatDoorHrnew
namespace Go.Proofs.YtckbhciehmokdaaGreatDoor
set_option maxRecDepth 100000
set_option maxHeartbeats 8000000
namespace Rn
def at1 (ls : List Nat) (i : Nat) : Nat := ls[i]?.getD 0
def alk (ls : List Nat) (c : Nat) : Nat -> Nat -> Nat
 | 0, _ => 0
 | k + 1, i => if at1 ls i = c then alk ls c k (i + 1) + 1 else 0
theorem alk_le (ls : List Nat) (c : Nat) : ∀ k i, alk ls c k i <= k
 | 0, _ => Nat.le_refl _
 | k + 1, i => by simp only [alk]; split <;> (try have := alk_le ls c k (i + 1)) <;> omega
theorem alk_is (ls : List Nat) (c : Nat) : ∀ k i j, j < alk ls c k i -> at1 ls (i + j) = c
 | 0, i, j, h => by simp [alk] at h
 | k + 1, i, j, h => by
  simp only [alk] at h
  split at h
  ·rename_i e
   cases j with
   | zero => exact e
   | succ j =>
    have := alk_is ls c k (i + 1) j (by omega)
    rw [show i + 1 + j = i + (j + 1) by omega] at this
    exact this
  ·omega
def run (ls : List Nat) (i : Nat) : Nat := alk ls (at1 ls i) (ls.length - i) i
theorem run_pos (ls : List Nat) (i : Nat) (h : i < ls.length) : 1 <= run ls i := by
 unfold run
 obtain ⟨k, hk⟩ : ∃ k, ls.length - i = k + 1 := ⟨ls.length - i - 1, by omega⟩
 rw [hk]
 simp only [alk]
 rw [if_pos trivial]
 omega
theorem run_le (ls : List Nat) (i : Nat) : run ls i <= ls.length - i := alk_le _ _ _ _
theorem run_is (ls : List Nat) (i j : Nat) (h : j < run ls i) : at1 ls (i + j) = at1 ls i := alk_is _ _ _ _ _ h
def sym (ls : List Nat) (i : Nat) : Nat :=
 if at1 ls i = 0 /\ 11 <= run ls i then 18 else if at1 ls i = 0 /\ 3 <= run ls i then 17 else if 0 < i /\ at1 ls i = at1 ls (i - 1) /\ 3 <= run ls i then 16 else at1 ls i
def num (ls : List Nat) (i : Nat) : Nat := min (run ls i - Hd.least (sym ls i)) (2 ^ Hd.ex (sym ls i) - 1)
def siz (ls : List Nat) (i : Nat) : Nat := Hd.least (sym ls i) + num ls i
def op (ls : List Nat) (i : Nat) : Nat × Nat := (sym ls i, num ls i)
theorem sym_lt (ls : List Nat) (h15 : ∀ x ∈ ls, x <= 15) (i : Nat) : sym ls i < 19 := by
 have : at1 ls i <= 15 := by
  unfold at1
  rcases Nat.lt_or_ge i ls.length with hi | hi
  ·rw [List.getElem?_eq_getElem hi]; exact h15 _ (List.getElem_mem hi)
  ·rw [List.getElem?_eq_none hi]; exact Nat.zero_le _
 unfold sym
 split
 ·omega
 ·split
  ·omega
  ·split <;> omega
theorem num_lt (ls : List Nat) (i : Nat) : num ls i < 2 ^ Hd.ex (sym ls i) := by
 have := Nat.two_pow_pos (Hd.ex (sym ls i))
 unfold num
 omega
theorem least_run (ls : List Nat) (h15 : ∀ x ∈ ls, x <= 15) (i : Nat) (h : i < ls.length) : Hd.least (sym ls i) <= run ls i := by
 have h1 := run_pos ls i h
 have ha : at1 ls i <= 15 := by unfold at1; rw [List.getElem?_eq_getElem h]; exact h15 _ (List.getElem_mem h)
 unfold sym
 split
 ·rename_i e; exact e.2
 ·split
  ·rename_i e; exact e.2
  ·split
   ·rename_i e; exact e.2.2
   ·unfold Hd.least
    rw [if_neg (by omega), if_neg (by omega), if_neg (by omega)]
    exact h1
theorem siz_le (ls : List Nat) (h15 : ∀ x ∈ ls, x <= 15) (i : Nat) (h : i < ls.length) : siz ls i <= run ls i /\ 1 <= siz ls i := by
 have := least_run ls h15 i h
 have h2 := Hd.least_le (sym ls i)
 unfold siz num
 omega
theorem take_run (ls : List Nat) (i : Nat) : ∀ n, n <= run ls i -> i + n <= ls.length -> ls.take i ++ List.replicate n (at1 ls i) = ls.take (i + n)
 | 0, _, _ => by simp
 | n + 1, h, h2 => by
  have ih := take_run ls i n (by omega) (by omega)
  rw [List.replicate_succ', <- List.append_assoc, ih, <- Nat.add_assoc, List.take_add_one]
  have e := run_is ls i n (by omega)
  unfold at1 at e
  rw [List.getElem?_eq_getElem (show i + n < ls.length by omega)] at e ⊢
  simp only [Option.getD_some] at e
  rw [e]
  rfl
theorem told_run (ls : List Nat) (h15 : ∀ x ∈ ls, x <= 15) (i : Nat) (h : i < ls.length) : If.told1 (ls.take i) (op ls i) = ls.take (i + siz ls i) := by
 have hs := siz_le ls h15 i h
 have hr := run_le ls i
 have hv : Hd.val (ls.take i) (sym ls i) = at1 ls i := by
  have ha : at1 ls i <= 15 := by unfold at1; rw [List.getElem?_eq_getElem h]; exact h15 _ (List.getElem_mem h)
  unfold Hd.val sym
  split
  ·rename_i e; simp; omega
  ·split
   ·rename_i e; simp; omega
   ·split
    ·rename_i e
     rw [if_pos rfl, List.length_take, Nat.min_eq_left (by omega), List.getElem?_take_of_lt (by omega), e.2.1]
     rfl
    ·rw [if_neg (by omega), if_neg (by omega)]
 unfold If.told1 op
 simp only
 rw [hv]
 exact take_run ls i (siz ls i) hs.1 (by omega)
def ops (ls : List Nat) : Nat -> Nat -> List (Nat × Nat)
 | 0, _ => []
 | k + 1, i => if ls.length <= i then [] else op ls i :: ops ls k (i + siz ls i)
theorem ops_told (ls : List Nat) (h15 : ∀ x ∈ ls, x <= 15) : ∀ (k i : Nat), ls.length < k + i -> i <= ls.length -> If.told (ls.take i) (ops ls k i) = ls
 | 0, i, h, h2 => by omega
 | k + 1, i, h, h2 => by
  simp only [ops]
  by_cases e : ls.length <= i
  ·rw [if_pos e]; exact List.take_of_length_le e
  ·rw [if_neg e]
   have hs := siz_le ls h15 i (by omega)
   have hr := run_le ls i
   have ih := ops_told ls h15 k (i + siz ls i) (by omega) (by omega)
   unfold If.told at ih ⊢
   rw [List.foldl_cons, told_run ls h15 i (by omega), ih]
theorem ops_ov (ls C : List Nat) (h15 : ∀ x ∈ ls, x <= 15) : ∀ (k i : Nat), i <= ls.length -> (∀ o ∈ ops ls k i, Hf.ln C o.1 ≠ 0) -> If.OV C (ops ls k i) (ls.take i)
 | 0, i, _, _ => trivial
 | k + 1, i, h, h2 => by
  simp only [ops] at h2 ⊢
  by_cases e : ls.length <= i
  ·rw [if_pos e]; exact trivial
  ·rw [if_neg e] at h2 ⊢
   have hs := siz_le ls h15 i (by omega)
   have hr := run_le ls i
   refine ⟨h2 _ (List.mem_cons_self ..), num_lt ls i, fun e2 => ?_, ?_⟩
   ·rw [List.length_take]
    have ha : at1 ls i <= 15 := by unfold at1; rw [List.getElem?_eq_getElem (by omega)]; exact h15 _ (List.getElem_mem (by omega))
    show min i ls.length ≠ 0
    have : 0 < i := by
     simp only [op, sym] at e2
     split at e2
     ·omega
     ·split at e2
      ·omega
      ·split at e2
       ·rename_i e3; exact e3.1
       ·omega
    omega
   ·rw [told_run ls h15 i (by omega)]
    exact ops_ov ls C h15 k _ (by omega) fun o ho => h2 o (List.mem_cons_of_mem _ ho)
theorem ops_lt (ls : List Nat) (h15 : ∀ x ∈ ls, x <= 15) : ∀ (k i : Nat), ∀ o ∈ ops ls k i, o.1 < 19
 | 0, _, o, h => nomatch h
 | k + 1, i, o, h => by
  simp only [ops] at h
  by_cases e : ls.length <= i
  ·rw [if_pos e] at h; exact nomatch h
  ·rw [if_neg e] at h
   rcases List.mem_cons.1 h with rfl | h
   ·exact sym_lt ls h15 i
   ·exact ops_lt ls h15 k _ o h
end Rn
end Go.Proofs.YtckbhciehmokdaaGreatDoor
namespace Go.Proofs.YtckbhciehmokdaaGreatDoor
set_option maxRecDepth 100000
set_option maxHeartbeats 8000000
open Go.RowKit
namespace Rn
theorem alk_stop (ls : List Nat) (c : Nat) : ∀ (k n i : Nat), k <= n -> (∀ j, j < k -> at1 ls (i + j) = c) -> (k = n ∨ at1 ls (i + k) ≠ c) -> alk ls c n i = k
 | 0, n, i, _, _, h2 => by
  cases n with
  | zero => rfl
  | succ n =>
   simp only [alk]
   rw [if_neg (by rcases h2 with h | h; · omega
                  ·exact h)]
 | k + 1, n, i, h, h1, h2 => by
  obtain ⟨n', rfl⟩ : ∃ n', n = n' + 1 := ⟨n - 1, by omega⟩
  simp only [alk]
  have e0 := h1 0 (by omega)
  rw [Nat.add_zero] at e0
  rw [if_pos e0, alk_stop ls c k n' (i + 1) (by omega) (fun j hj => by have := h1 (j + 1) (by omega); rwa [show i + (j + 1) = i + 1 + j by omega] at this)
   (by rcases h2 with h2 | h2
       ·exact Or.inl (by omega)
       ·exact Or.inr (by rwa [show i + (k + 1) = i + 1 + k by omega] at h2))]
end Rn
theorem alike1_is (T b off m cap : Nat) (z c : Int) (w : World) (hx : w.cell? ⟨T, 0, none⟩ = some (.slice (some ⟨b, off, none⟩) m cap)) (hm : 0 < m) (hc : w.cell? ⟨b, off, none⟩ = some (.int .i64 c)) :
  Calls Tryz.prog 207 #[.int .i64 z, .pointer (some ⟨T, 0, none⟩)] w fun e w' => e = .returned (.bool (z != c)) /\ w = w' := by
 have i1 : (0 : Int) < (m : Int) := by omega
 go_enter Tryz.func207, Tryz.ntmps207
 go_wp2
 go_ret
 exact ⟨rfl, rfl⟩
def AlkPost (w : World) (m k : Nat) (e : Ending) (w' : World) : Prop := e = .returned (.int .i64 (if k = m then -1 else (k : Int))) /\ w = w'
theorem index_alike (ls : List Nat) (i m T b off cap : Nat) (w : World) (hm : m = ls.length - i) (hi : i < ls.length) (hx : w.cell? ⟨T, 0, none⟩ = some (.slice (some ⟨b, off, none⟩) m cap)) (hl : ls.length <= 1000)
  (hc : ∀ j, j < m -> w.cell? ⟨b, off + j, none⟩ = some (.int .i64 ((Rn.at1 ls (i + j) : Nat) : Int))) :
  Calls Tryz.prog 156 #[.slice (some ⟨b, off, none⟩) m cap, .func (.func 207) #[] #[.pointer (some ⟨T, 0, none⟩)]] w (AlkPost w m (Rn.run ls i)) := by
 have h0 := hc 0 (by omega)
 rw [Nat.add_zero, Nat.add_zero] at h0
 obtain ⟨c, hcc⟩ : ∃ c, c = Rn.at1 ls i := ⟨_, rfl⟩
 rw [<- hcc] at h0
 have m0 : 0 < m := by omega
 have m9 : m <= 1000 := by omega
 have HCL := LH (fun z => alike1_is T b off m cap z c w hx m0 h0)
 have HC := LH hc
 have HM := LH (fun _ : Unit => hm)
 have HCC := LH (fun _ : Unit => hcc)
 clear hx hc h0 hm hi hl hcc
 go_enter Tryz.func156, Tryz.ntmps156
 go_wp2
 go_loop [8] (fun s8 => ∃ k : Nat, k <= m /\ s8 = .int .i64 (k : Int) /\ Hid (∀ j, j < k -> Rn.at1 ls (i + j) = c)) (fun s => m - (intOf s).toNat)
 case atStart => exact ⟨0, Nat.zero_le _, rfl, fun i hi => by omega⟩
 case round =>
  obtain ⟨k, hk, rfl, KB⟩ := hrel
  by_cases hlt : k < m
  ·have hck := HC.out k hlt
   obtain ⟨z, hz⟩ : ∃ z, z = Rn.at1 ls (i + k) := ⟨_, rfl⟩
   rw [<- hz] at hck
   have HK := LH (fun _ : Unit => hz)
   clear hz
   by_cases hb : z = c
   ·have hne : (((z : Nat) : Int) != (c : Int)) = false := by simp; omega
    have KN : Hid (∀ j, j < k + 1 -> Rn.at1 ls (i + j) = c) := fun j hj => by
     by_cases e : j = k
     ·subst e; rw [<- HK.out ()]; exact hb
     ·exact KB.out j (by omega)
    have HCZ := LH (HCL.out z)
    rw [hne] at HCZ
    clear hb KB hne
    go_wp2_with (go_at_call 207; refine HCZ.out.mono ?_; rintro e w' ⟨rfl, rfl⟩)
    go_round
    case rel => exact ⟨k + 1, by omega, by go_num, KN⟩
    case measure => simp [intOf]; omega
   ·have hne : (((z : Nat) : Int) != (c : Int)) = true := by rw [bne_iff_ne]; omega
    have HR : Hid (Unit -> Rn.run ls i = k) := fun _ => by
     unfold Rn.run
     rw [<- HCC.out (), <- HM.out ()]
     exact Rn.alk_stop ls c k m i (by omega) KB.out (Or.inr (by rw [<- HK.out ()]; exact hb))
    have HCZ := LH (HCL.out z)
    rw [hne] at HCZ
    clear hb KB hne
    go_wp2_with (go_at_call 207; refine HCZ.out.mono ?_; rintro e w' ⟨rfl, rfl⟩)
    go_ret
    refine ⟨?_, rfl⟩
    rw [HR.out (), if_neg (by omega)]
    rfl
  ·obtain rfl : k = m := by omega
   have HR : Hid (Unit -> Rn.run ls i = k) := fun _ => by
    unfold Rn.run
    rw [<- HCC.out (), <- HM.out ()]
    exact Rn.alk_stop ls c k k i (by omega) KB.out (Or.inl rfl)
   clear KB
   go_wp2
   go_ret
   refine ⟨?_, rfl⟩
   rw [HR.out (), if_pos rfl]
   rfl
theorem alike_is (ls : List Nat) (i m b off cap : Nat) (w : World) (hm : m = ls.length - i) (hi : i < ls.length) (hl : ls.length <= 1000) (hb : b < w.heap.size)
  (hc : ∀ j, j < m -> w.cell? ⟨b, off + j, none⟩ = some (.int .i64 ((Rn.at1 ls (i + j) : Nat) : Int))) :
  Calls Tryz.prog 192 #[.slice (some ⟨b, off, none⟩) m cap] w fun e w' => e = .returned (.int .i64 ((Rn.run ls i : Nat) : Int)) /\ Below w.heap.size w w' := by
 have hb1 := below1 w (.cells #[.slice (some ⟨b, off, none⟩) m cap] 57)
 have hx := (Has.new w (.cells #[.slice (some ⟨b, off, none⟩) m cap] 57)).one.1
 have HI := LH (index_alike ls i m w.heap.size b off cap _ hm hi hx hl (fun j hj => (hb1.cell (p := ⟨b, off + j, none⟩) hb).trans (hc j hj)))
 have hr1 := Rn.run_pos ls i hi
 have hr2 := Rn.run_le ls i
 rw [<- hm] at hr2
 obtain ⟨k, hk⟩ : ∃ k, k = Rn.run ls i := ⟨_, rfl⟩
 rw [<- hk] at HI hr1 hr2 ⊢
 have m9 : m <= 1000 := by omega
 have HB := LH hb1
 clear hk hb1 hm hi hl hb hc
 go_enter Tryz.func192, Tryz.ntmps192
 by_cases e : k = m
 ·subst e
  go_wp2_with (go_at_call 156; refine HI.out.mono ?_; rintro e w' ⟨rfl, rfl⟩; simp only [if_true])
  go_ret
  exact ⟨rfl, HB.out⟩
 ·unfold AlkPost at HI
  rw [if_neg e] at HI
  clear e
  go_wp2_with (go_at_call 156; refine HI.out.mono ?_; rintro e w' ⟨rfl, rfl⟩)
  go_ret
  exact ⟨rfl, HB.out⟩
end Go.Proofs.YtckbhciehmokdaaGreatDoor
namespace Go.Proofs.YtckbhciehmokdaaGreatDoor
set_option maxRecDepth 100000
set_option maxHeartbeats 8000000
open Go.RowKit
def Nat9 (w : World) (b off : Nat) (ys : List Nat) : Prop := b < w.heap.size /\ ∀ j, j < ys.length -> w.cell? ⟨b, off + j, none⟩ = some (.int .i64 ((ys[j]?.getD 0 : Nat) : Int))
theorem Nat9.later {w w' : World} {b off : Nat} {ys : List Nat} (h : Nat9 w b off ys) (hb : Below w.heap.size w w') : Nat9 w' b off ys := ⟨Nat.lt_of_lt_of_le h.1 hb.size, fun j hj => (hb.cell (p := ⟨b, off + j, none⟩) h.1).trans (h.2 j hj)⟩
theorem Nat9.below {w w' : World} {b off B : Nat} {ys : List Nat} (h : Nat9 w b off ys) (hb : Below B w w') (hB : b < B) (hs : w.heap.size <= w'.heap.size) : Nat9 w' b off ys := ⟨Nat.lt_of_lt_of_le h.1 hs, fun j hj => (hb.cell (p := ⟨b, off + j, none⟩) hB).trans (h.2 j hj)⟩
theorem nat_append {w : World} {base : Nat} {v : Value} {xs : List Nat} (hown : Own base w v xs) (ty : TypeId) (b off m cap : Nat) (ys : List Nat) (hg : Nat9 w b off ys) (hm : m = ys.length) (h1 : xs.length + m <= 100000) (hb : base <= w.heap.size) :
  ∃ v' w', (Builtin.append_ #[57, 57] ty #[v, .slice (some ⟨b, off, none⟩) m cap]).run Tryz.prog w = .ok v' w' /\ Own base w' v' (xs ++ ys) /\ w.grownBy w' v.ownBlock := by
 subst hm
 obtain ⟨i0, hi, hz0, hz1, hz2⟩ := info_parts Tryz.infoInt
 obtain ⟨v', w', h1, h2, h3, _⟩ := run_append_own (P := Tryz.prog) (w := w) base 57 ty 3 i0 (.int .i64 0) 1 8 Tryz.underlying57 hi hz0 hz1 hz2 rfl (by decide) v xs.length (vn xs) hown ⟨b, off, none⟩ ys.length cap (vn ys) (by rw [vn_length]; omega)
  (fun j u hj => by
   have e : (⟨b, off, none⟩ : Addr).add j = ⟨b, off + j, none⟩ := by cases j <;> simp [Addr.add]
   have hj2 := (List.getElem?_eq_some_iff.1 hj).1
   rw [vn_length] at hj2
   rw [e, hg.2 j hj2]
   rw [vn_get, List.getElem?_eq_getElem hj2] at hj
   rw [List.getElem?_eq_getElem hj2]
   simpa using hj)
  (vn_one _) (by unfold maxLen; omega) (by omega) hb
 refine ⟨v', w', h1, ?_, h3⟩
 unfold Own
 rw [List.length_append, vn_append]
 exact h2
theorem concat2 (C b0 o0 n0 k0 b1 o1 n1 k1 : Nat) (xs ys : List Nat) (w : World) (hC : Has w C (.cells #[.slice (some ⟨b0, o0, none⟩) n0 k0, .slice (some ⟨b1, o1, none⟩) n1 k1] 57 (0, 0)))
  (h0 : Nat9 w b0 o0 xs) (h1 : Nat9 w b1 o1 ys) (e0 : n0 = xs.length) (e1 : n1 = ys.length) (p0 : 0 < n0) (p1 : 0 < n1) (l0 : n0 <= 400) (l1 : n1 <= 400) :
  Calls Tryz.prog 66 #[.slice (some ⟨C, 0, none⟩) 2 2] w fun e w' => ∃ v, e = .returned v /\ Own w.heap.size w' v (xs ++ ys) /\ Below w.heap.size w w' := by
 have c0 : w.cell? ⟨C, 0, none⟩ = some (.slice (some ⟨b0, o0, none⟩) n0 k0) := by rw [hC.cell]; rfl
 have c1 : w.cell? ⟨C, 1, none⟩ = some (.slice (some ⟨b1, o1, none⟩) n1 k1) := by rw [hC.cell]; rfl
 have HC := LH hC
 have H0 := LH h0
 have H1 := LH h1
 have E0 := LH e0
 have E1 := LH e1
 clear hC h0 h1 e0 e1
 go_enter Tryz.func66, Tryz.ntmps66
 go_wp2_with fail
 refine wp_loop_rounds 3 ?_
 rw [rounds_succ]
 go_wp2_with fail
 rw [rounds_succ]
 go_wp2_with fail
 rw [rounds_succ]
 go_wp2_with fail
 have hgr := grow_nil (n0 + n1) (by omega) (by omega) w
 push_cast at hgr
 refine hgr.mono ?_
 clear hgr
 rintro e w1 ⟨cap, rfl, hO0, hb0⟩
 have HCl := LH HC.out.lt
 have HO0 := LH hO0
 have HB0 := LH hb0
 obtain ⟨v0, hv0⟩ : ∃ v0, v0 = Value.slice (some ⟨w.heap.size, 0, none⟩) 0 cap := ⟨_, rfl⟩
 rw [<- hv0] at HO0 ⊢
 clear c0 c1 hO0 hb0 hv0
 go_wp2_with fail
 refine wp_loop_rounds 3 ?_
 have hC0 := HC.out.below HB0.out HCl.out
 have c0 : w1.cell? ⟨C, 0, none⟩ = some (.slice (some ⟨b0, o0, none⟩) n0 k0) := by rw [hC0.cell]; rfl
 obtain ⟨v1, w2, hrun, hO, hg⟩ := nat_append HO0.out 57 b0 o0 n0 k0 xs (H0.out.below HB0.out H0.out.1 HB0.out.size) E0.out (by simp; omega) HB0.out.size
 have HR := LH hrun
 have HB1 := LH (HB0.out.grown hg HB0.out.size (fun q hq => HO0.out.block q hq))
 have HO1 := LH hO
 clear hC0 hrun hg hO
 rw [rounds_succ]
 go_wp2_with (at_builtin; (refine wpList_append_is rfl (.tmp 31) (.tmp 32) 57 rfl _ _ _ _ rfl rfl HR.out ?_))
 clear HR c0 HB0 HO0
 have hC1 := HC.out.below HB1.out HCl.out
 have c1 : w2.cell? ⟨C, 1, none⟩ = some (.slice (some ⟨b1, o1, none⟩) n1 k1) := by rw [hC1.cell]; rfl
 obtain ⟨v2, w3, hrun, hO, hg⟩ := nat_append HO1.out 57 b1 o1 n1 k1 ys (H1.out.below HB1.out H1.out.1 HB1.out.size) E1.out (by simp [<- E0.out]; omega) HB1.out.size
 have HR := LH hrun
 have HB2 := LH (HB1.out.grown hg HB1.out.size (fun q hq => HO1.out.block q hq))
 have HO2 := LH hO
 clear hC1 hrun hg hO
 rw [rounds_succ]
 go_wp2_with (at_builtin; (refine wpList_append_is rfl (.tmp 31) (.tmp 32) 57 rfl _ _ _ _ rfl rfl HR.out ?_))
 clear HR c1 HB1 HO1
 rw [rounds_succ]
 go_wp2_with fail
 go_ret
 exact ⟨_, rfl, by simpa using HO2.out, HB2.out⟩
end Go.Proofs.YtckbhciehmokdaaGreatDoor
namespace Go.Proofs.YtckbhciehmokdaaGreatDoor
set_option maxRecDepth 100000
set_option maxHeartbeats 8000000
open Go.RowKit
def Ftabs (K : Nat -> Prop) (w : World) (r : Rv) : Prop := (r.lv = .pointer none) ∨ (TbK K w r.lv If.fixL /\ TbK K w r.dv If.fixD)
theorem Ftabs.fr {K : Nat -> Prop} {w w' : World} {r : Rv} (h : Ftabs K w r) (hf : Fr K w w') : Ftabs K w' r := h.imp id (fun h => ⟨h.1.fr hf, h.2.fr hf⟩)
def Sx (K0 : Nat -> Prop) (R : Nat) (s : Value) (l : List Bool) (N most : Nat) (w : World) (r : Rv) : Prop := ∃ K, (∀ k, K0 k -> K k) /\ St K R s l N most w r /\ Ftabs K w r
theorem Out.from {K : Nat -> Prop} {w W w' : World} {c : Int} {v : Value} {S : World -> Prop} {e : Ending} (hf : Fr K w W) (h : Out K W c v S e w') : Out K w c v S e w' := ⟨hf.trans h.1, h.2⟩
end Go.Proofs.YtckbhciehmokdaaGreatDoor
namespace Go.Proofs.YtckbhciehmokdaaGreatDoor
set_option maxRecDepth 100000
set_option maxHeartbeats 8000000
open Go.RowKit
namespace Hd
theorem runs_len {ls : List Nat} {l : List Bool} {n : Nat} : ∀ (k : Nat) (acc : List Nat) (p : Nat), acc.length <= n -> n - acc.length < k -> (runs ls l n k acc p).2.2 = 0 -> (runs ls l n k acc p).1.length = n := by
 intro k
 induction k with
 | zero => intro acc p _ h; omega
 | succ k ih =>
  intro acc p h1 h2 h3
  simp only [runs] at h3 ⊢
  by_cases a1 : n <= acc.length
  ·rw [if_pos a1]; simp only; omega
  rw [if_neg a1] at h3 ⊢
  by_cases a2 : (rd ls l p).2.2 ≠ 0
  ·rw [if_pos a2] at h3; exact absurd h3 a2
  rw [if_neg a2] at h3 ⊢
  by_cases a3 : l.length < (rd ls l p).2.1 + ex (rd ls l p).1
  ·rw [if_pos a3] at h3; simp at h3
  rw [if_neg a3] at h3 ⊢
  generalize ht : take acc (rd ls l p).1 (num l (rd ls l p).2.1 (ex (rd ls l p).1)) n = t at h3 ⊢
  obtain ⟨x, c⟩ := t
  by_cases a4 : c ≠ 0
  ·rw [if_pos a4] at h3; exact absurd h3 a4
  rw [if_neg a4] at h3 ⊢
  have hc : c = 0 := by simpa using a4
  subst hc
  have hl := take_length ht
  exact ih x _ hl.2 (by omega) h3
theorem head_lens {l : List Bool} {p q : Nat} {lit dist : List Nat} (h : head l p = (lit, dist, q, 0)) : 257 <= lit.length /\ lit.length <= 286 /\ 1 <= dist.length /\ dist.length <= 30 := by
 unfold head at h
 by_cases a1 : l.length < p + 10
 ·rw [if_pos a1] at h; simp at h
 rw [if_neg a1] at h
 by_cases a2 : 286 < num l p 5 + 257 ∨ 30 < num l (p + 5) 5 + 1
 ·rw [if_pos a2] at h; simp at h
 rw [if_neg a2] at h
 by_cases a3 : l.length < p + 14
 ·rw [if_pos a3] at h; simp at h
 rw [if_neg a3] at h
 by_cases a4 : l.length < p + 14 + 3 * (num l (p + 10) 4 + 4)
 ·rw [if_pos a4] at h; simp at h
 rw [if_neg a4] at h
 by_cases a5 : newE (zz (cl l (p + 14) (num l (p + 10) 4 + 4))) ≠ 0
 ·rw [if_pos a5] at h
  have h1 := (Prod.mk.inj (Prod.mk.inj (Prod.mk.inj h).2).2).2
  exact absurd h1 a5
 rw [if_neg a5] at h
 have hr := @runs_len (cl l (p + 14) (num l (p + 10) 4 + 4)) l (num l p 5 + 257 + (num l (p + 5) 5 + 1)) 400 [] (p + 14 + 3 * (num l (p + 10) 4 + 4)) (by simp) (by simp; omega)
 generalize runs (cl l (p + 14) (num l (p + 10) 4 + 4)) l (num l p 5 + 257 + (num l (p + 5) 5 + 1)) 400 [] (p + 14 + 3 * (num l (p + 10) 4 + 4)) = r at h hr
 by_cases a6 : r.2.2 ≠ 0
 ·rw [if_pos a6] at h
  have h1 := (Prod.mk.inj (Prod.mk.inj (Prod.mk.inj h).2).2).2
  exact absurd h1 a6
 rw [if_neg a6] at h
 have hr := hr (by simpa using a6)
 obtain ⟨h1, h2⟩ := Prod.mk.inj h
 obtain ⟨h2, _⟩ := Prod.mk.inj h2
 subst h1 h2
 rw [List.length_take, List.length_drop, hr]
 omega
end Hd
namespace If
end If
end Go.Proofs.YtckbhciehmokdaaGreatDoor
namespace Go.Proofs.YtckbhciehmokdaaGreatDoor
set_option maxRecDepth 100000
set_option maxHeartbeats 8000000
open Go.RowKit
theorem jnone_any (ls : List Nat) (s : Value) (w : World) (hz : Zl w s (Hd.zz ls)) : Calls Tryz.prog 127 #[s] w fun e w' => e = .returned (.bool (decide (∀ x ∈ ls, x = 0))) /\ w = w' := by
 have HZ := LH hz
 obtain ⟨a, len, cap, rfl, hlen⟩ := hz.shape
 rw [Hd.zz_length] at hlen
 have hl9 : len <= 17592186044416 := by
  obtain ⟨_, _, _, e, _, h, _⟩ := hz
  injection e with _ e2 _
  rw [e2]; exact h
 have HL := LH hlen
 obtain ⟨r, hr⟩ : ∃ r : Bool, r = decide (∀ x ∈ ls, x = 0) := ⟨_, rfl⟩
 rw [<- hr]
 have HR := LH (fun _ : Unit => hr)
 clear hz hlen hr
 go_enter Tryz.func127, Tryz.ntmps127
 go_wp2_with fail
 go_loop [3] (fun s3 => ∃ k : Nat, k <= len /\ s3 = .int .i64 k /\ Hid (∀ j, j < k -> ls[j]?.getD 0 = 0)) (fun s => len - (intOf s).toNat)
 case atStart => exact ⟨0, Nat.zero_le _, rfl, (fun j hj => absurd hj (Nat.not_lt_zero _) : ∀ j, j < 0 -> _)⟩
 case round =>
  obtain ⟨k, hk, rfl, H0⟩ := hrel
  by_cases hlt : k < len
  ·obtain ⟨b, off, rfl, hbl, hq, hc⟩ := zl_cell HZ.out k (by rw [Hd.zz_length]; have := HL.out; omega)
   rw [Hd.zz_get] at hc
   obtain ⟨x, hx⟩ : ∃ x : Nat, x = ls[k]?.getD 0 := ⟨_, rfl⟩
   rw [<- hx] at hc
   have HX := LH hx
   clear hq hx hbl
   have j1 : (0 : Int) <= (k : Int) := by omega
   have j2 : (k : Int) < (len : Int) := by omega
   by_cases h0 : 0 < x
   ·have d1 : decide ((0 : Int) < (x : Int)) = true := decide_eq_true (by omega)
    have d2 : decide (0 < x) = true := decide_eq_true h0
    have hr : Hid (r = false) := by
     show _ = _
     rw [HR.out ()]
     apply decide_eq_false
     intro h
     have := h x (by rw [HX.out]; rw [List.getElem?_eq_getElem (by have := HL.out; omega)]; exact List.getElem_mem _)
     omega
    clear HR
    go_wp2
    go_ret
    exact ⟨by rw [hr.out]; rfl, rfl⟩
   ·have d1 : decide ((0 : Int) < (x : Int)) = false := decide_eq_false (by omega)
    have d2 : decide (0 < x) = false := decide_eq_false h0
    have N0 : Hid (∀ j, j < k + 1 -> ls[j]?.getD 0 = 0) := fun j hj => by
     by_cases h : j < k
     ·exact H0.out j h
     ·obtain rfl : j = k := by omega
      rw [<- HX.out]; omega
    clear H0
    go_wp2
    go_round
    case rel => exact ⟨k + 1, by omega, by go_num, N0⟩
    case measure => simp [intOf]; omega
  ·obtain rfl : k = len := by omega
   have hr : Hid (r = true) := by
    show _ = _
    rw [HR.out ()]
    apply decide_eq_true
    intro x hx
    obtain ⟨j, hj, rfl⟩ := List.getElem_of_mem hx
    have := H0.out j (by rw [HL.out]; exact hj)
    rw [List.getElem?_eq_getElem hj] at this
    exact this
   clear HR H0
   go_wp2
   go_ret
   exact ⟨by rw [hr.out]; rfl, rfl⟩
def upd (L : List Nat) (k : Nat) : List Nat := L.take k ++ List.replicate (L.length - k) 0
theorem upd_length (L : List Nat) (k : Nat) (h : k <= L.length) : (upd L k).length = L.length := by simp [upd]; omega
theorem upd_full (L : List Nat) : upd L L.length = L := by simp [upd]
theorem upd_set (L : List Nat) (k : Nat) (h : k < L.length) : (upd L k).set k (L[k]?.getD 0) = upd L (k + 1) := by
 unfold upd
 have e1 : (L.take k).length = k := by rw [List.length_take]; omega
 rw [List.set_append_right _ _ (by omega), e1, Nat.sub_self]
 obtain ⟨m, hm⟩ : ∃ m, L.length - k = m + 1 := ⟨L.length - k - 1, by omega⟩
 rw [hm, List.replicate_succ, List.set_cons_zero, List.take_add_one, List.getElem?_eq_getElem h, show L.length - (k + 1) = m by omega, List.append_assoc]
 rfl
theorem fixL_get : ∀ k : Fin 288, If.fixL[k.1]?.getD 0 = if k.1 < 144 ∨ 280 <= k.1 then 8 else if k.1 < 256 then 9 else 7 := by decide +kernel
theorem fixD_get : ∀ k : Fin 32, If.fixD[k.1]?.getD 0 = 5 := by decide +kernel
theorem fixL_len : If.fixL.length = 288 := by decide +kernel
theorem fixD_len : If.fixD.length = 32 := by decide +kernel
theorem made_upd (L : List Nat) : Obj.cells (madeCells #[Value.int .i64 0] L.length) 3 (0, 0) = nums (upd L 0) := by
 unfold nums
 congr 1
 apply Array.toList_inj.1
 rw [toList_madeCells_one]
 simp [upd, vn]
def TwoL (w wx : World) (s2 s3 : Value) (a b : List Nat) : Prop :=
 ∃ g1 g2 : Nat, s2 = .slice (some ⟨g1, 0, none⟩) 288 288 /\ s3 = .slice (some ⟨g2, 0, none⟩) 32 32 /\ w.heap.size <= g1 /\ w.heap.size <= g2 /\ g1 ≠ g2 /\ Has wx g1 (nums a) /\ Has wx g2 (nums b) /\ Below w.heap.size w wx
theorem has_two {w : World} {x y : Obj} : Has ((w.alloc x).alloc y) (w.heap.size + 1) y := by
 have h := Has.new (w.alloc x) y
 simpa using h
theorem TwoL.ab {w : World} {a b : List Nat} : TwoL w ((w.alloc (nums a)).alloc (nums b)).drew (.slice (some ⟨w.heap.size, 0, none⟩) 288 288) (.slice (some ⟨w.heap.size + 1, 0, none⟩) 32 32) a b :=
 ⟨_, _, rfl, rfl, Nat.le_refl _, by omega, by omega, (Has.new w (nums a)).alloc (nums b), has_two, (below2 w (nums a) (nums b)).drew⟩
theorem TwoL.ba {w : World} {a b : List Nat} : TwoL w ((w.alloc (nums b)).alloc (nums a)).drew (.slice (some ⟨w.heap.size + 1, 0, none⟩) 288 288) (.slice (some ⟨w.heap.size, 0, none⟩) 32 32) a b :=
 ⟨_, _, rfl, rfl, by omega, Nat.le_refl _, by omega, has_two, (Has.new w (nums b)).alloc (nums a), (below2 w (nums b) (nums a)).drew⟩
theorem jfixed_is (w : World) : Calls Tryz.prog 33 #[] w fun e w' => ∃ v1 v2, e = .returned (.tuple #[v1, v2]) /\ TwoL w w' v1 v2 If.fixL If.fixD := by
 have hm1 : ∀ w, (Instr.makeSlice 57 (.int .i64 288) (.int .i64 288)).run Tryz.prog w = .ok (.slice (some ⟨w.heap.size, 0, none⟩) 288 288) (w.alloc (nums (upd If.fixL 0))) := fun w => by
  rw [<- made_upd, fixL_len]
  exact run_make_row' (P := Tryz.prog) 57 3 (.int .i64 0) 8 Tryz.underlying57 Tryz.infoInt rfl .i64 .i64 288 (by omega) (by omega) w
 have hm2 : ∀ w, (Instr.makeSlice 57 (.int .i64 32) (.int .i64 32)).run Tryz.prog w = .ok (.slice (some ⟨w.heap.size, 0, none⟩) 32 32) (w.alloc (nums (upd If.fixD 0))) := fun w => by
  rw [<- made_upd, fixD_len]
  exact run_make_row' (P := Tryz.prog) 57 3 (.int .i64 0) 8 Tryz.underlying57 Tryz.infoInt rfl .i64 .i64 32 (by omega) (by omega) w
 have HFIN : Hid (∀ wx g1 g2, w.heap.size <= g1 -> w.heap.size <= g2 -> g1 ≠ g2 -> Has wx g1 (nums (upd If.fixL 288)) -> Has wx g2 (nums (upd If.fixD 32)) -> Below w.heap.size w wx -> TwoL w wx (.slice (some ⟨g1, 0, none⟩) 288 288) (.slice (some ⟨g2, 0, none⟩) 32 32) If.fixL If.fixD) := by
  show ∀ _, _
  intro wx g1 g2 h1 h2 h3 h4 h5 h6
  rw [<- fixL_len, upd_full] at h4
  rw [<- fixD_len, upd_full] at h5
  exact ⟨g1, g2, rfl, rfl, h1, h2, h3, h4, h5, h6⟩
 have HLS : Hid (∀ k, k < 288 -> (upd If.fixL k).length = 288 /\ (upd If.fixL k).set k (if k < 144 ∨ 280 <= k then 8 else if k < 256 then 9 else 7) = upd If.fixL (k + 1)) := fun k hk => by
  have h := upd_set If.fixL k (by rw [fixL_len]; exact hk)
  rw [fixL_get ⟨k, hk⟩] at h
  exact ⟨by rw [upd_length _ _ (by rw [fixL_len]; omega), fixL_len], h⟩
 have HDS : Hid (∀ k, k < 32 -> (upd If.fixD k).length = 32 /\ (upd If.fixD k).set k 5 = upd If.fixD (k + 1)) := fun k hk => by
  have h := upd_set If.fixD k (by rw [fixD_len]; exact hk)
  rw [fixD_get ⟨k, hk⟩] at h
  exact ⟨by rw [upd_length _ _ (by rw [fixD_len]; omega), fixD_len], h⟩
 generalize hU : upd If.fixL = U at *
 generalize hV : upd If.fixD = V at *
 generalize hfl : If.fixL = FL at *
 generalize hfd : If.fixD = FD at *
 clear hU hV hfl hfd
 go_enter Tryz.func33, Tryz.ntmps33
 go_upto_region 1 with fail
 go_cut [2, 3] from 6 to 7 (fun s2 s3 wx => TwoL w wx s2 s3 (U 0) (V 0))
 case first =>
  go_region
  all_goals (go_wp2_with fail; go_meet; first | with_reducible exact TwoL.ab | with_reducible exact TwoL.ba | exact TwoL.ab | exact TwoL.ba)
 case rest =>
  obtain ⟨g1, g2, rfl, rfl, h1, h2, h3, hx, hy, hb⟩ := hcut
  clear hm1 hm2
  have HX := LH hx
  have HY := LH hy
  have HB := LH hb
  clear hx hy hb
  go_wp2_with fail
  go_loopw [4] (fun s4 wr => ∃ k : Nat, k <= 288 /\ s4 = .int .i64 (k : Int) /\ Hid (Has wr g1 (nums (U k))) /\ Hid (Has wr g2 (nums (V 0))) /\ Hid (Below w.heap.size w wr)) (fun s _ => 288 - (intOf s).toNat)
  case atStart => exact ⟨0, Nat.zero_le _, rfl, HX, HY, HB⟩
  case round =>
   obtain ⟨k, hk, rfl, KX, KY, KB⟩ := hrel
   by_cases hlt : k < 288
   ·obtain ⟨hlen, hset⟩ := HLS.out k hlt
    have c0 := nums_cell KX.out k (by rw [hlen]; exact hlt)
    have y0 : wr.frozen? ⟨g1, k, none⟩ = false := by have := KX.out; unfold nums at this; exact this.free k
    have KN : ∀ x : Nat, (U k).set k x = U (k + 1) -> Hid (Has (wr.setCell ⟨g1, k, none⟩ (.int .i64 (x : Int))) g1 (nums (U (k + 1)))) /\ Hid (Has (wr.setCell ⟨g1, k, none⟩ (.int .i64 (x : Int))) g2 (nums (V 0))) /\ Hid (Below w.heap.size w (wr.setCell ⟨g1, k, none⟩ (.int .i64 (x : Int)))) := fun x hx => by
     refine ⟨?_, ?_, ?_⟩
     ·show Has _ _ _
      have := nums_set KX.out k x
      rw [hx] at this
      exact this
     ·exact KY.out.set (a := ⟨g1, k, none⟩) (fun e => h3 e.symm) _
     ·exact KB.out.setCell (p := ⟨g1, k, none⟩) h1 _
    have HKN := LH KN
    have i1 : (k : Int) < 288 := by omega
    have HSET := LH (fun _ : Unit => hset)
    clear hset hlen KN
    by_cases k1 : k < 144
    ·have d1 : decide ((k : Int) < 144) = true := decide_eq_true (by omega)
     have d1' : decide (k < 144) = true := decide_eq_true (by omega)
     obtain ⟨n1, n2, n3⟩ := HKN.out 8 (by have := HSET.out (); rwa [if_pos (Or.inl k1)] at this)
     clear HSET HKN KX KY KB
     go_wp2
     go_roundw
     case rel => exact ⟨k + 1, by omega, by go_num, n1, n2, n3⟩
     case measure => simp [intOf]; omega
    ·have d1 : decide ((k : Int) < 144) = false := decide_eq_false (by omega)
     have d1' : decide (k < 144) = false := decide_eq_false (by omega)
     by_cases k2 : 280 <= k
     ·have d2 : decide ((280 : Int) <= (k : Int)) = true := decide_eq_true (by omega)
      have d2' : decide (280 <= k) = true := decide_eq_true (by omega)
      obtain ⟨n1, n2, n3⟩ := HKN.out 8 (by have := HSET.out (); rwa [if_pos (Or.inr k2)] at this)
      clear HSET HKN KX KY KB
      go_wp2
      go_roundw
      case rel => exact ⟨k + 1, by omega, by go_num, n1, n2, n3⟩
      case measure => simp [intOf]; omega
     ·have d2 : decide ((280 : Int) <= (k : Int)) = false := decide_eq_false (by omega)
      have d2' : decide (280 <= k) = false := decide_eq_false (by omega)
      have hset := HSET.out ()
      rw [if_neg (by omega)] at hset
      by_cases k3 : k < 256
      ·have d3 : decide ((k : Int) < 256) = true := decide_eq_true (by omega)
       have d3' : decide (k < 256) = true := decide_eq_true (by omega)
       obtain ⟨n1, n2, n3⟩ := HKN.out 9 (by rwa [if_pos k3] at hset)
       clear HSET HKN KX KY KB hset
       go_wp2
       go_roundw
       case rel => exact ⟨k + 1, by omega, by go_num, n1, n2, n3⟩
       case measure => simp [intOf]; omega
      ·have d3 : decide ((k : Int) < 256) = false := decide_eq_false (by omega)
       have d3' : decide (k < 256) = false := decide_eq_false (by omega)
       obtain ⟨n1, n2, n3⟩ := HKN.out 7 (by rwa [if_neg k3] at hset)
       clear HSET HKN KX KY KB hset
       go_wp2
       go_roundw
       case rel => exact ⟨k + 1, by omega, by go_num, n1, n2, n3⟩
       case measure => simp [intOf]; omega
   ·obtain rfl : k = 288 := by omega
    clear HX HY HB HLS
    go_wp2_with fail
    go_loopw [5] (fun s5 wq => ∃ k : Nat, k <= 32 /\ s5 = .int .i64 (k : Int) /\ Hid (Has wq g1 (nums (U 288))) /\ Hid (Has wq g2 (nums (V k))) /\ Hid (Below w.heap.size w wq)) (fun s _ => 32 - (intOf s).toNat)
    case atStart => exact ⟨0, Nat.zero_le _, rfl, KX, KY, KB⟩
    case round =>
     clear KX KY KB
     obtain ⟨k, hk, rfl, KX, KY, KB⟩ := hrel
     by_cases hlt : k < 32
     ·obtain ⟨hlen, hset⟩ := HDS.out k hlt
      have c0 := nums_cell KY.out k (by rw [hlen]; exact hlt)
      have y0 : wr.frozen? ⟨g2, k, none⟩ = false := by have := KY.out; unfold nums at this; exact this.free k
      have n2 : Hid (Has (wr.setCell ⟨g2, k, none⟩ (.int .i64 ((5 : Nat) : Int))) g2 (nums (V (k + 1)))) := by
       show Has _ _ _
       have := nums_set KY.out k 5
       rw [hset] at this
       exact this
      have n1 := LH (KX.out.set (a := ⟨g2, k, none⟩) h3 (.int .i64 ((5 : Nat) : Int)))
      have n3 := LH (KB.out.setCell (p := ⟨g2, k, none⟩) h2 (.int .i64 ((5 : Nat) : Int)))
      have i1 : (k : Int) < 32 := by omega
      clear hset hlen KX KY KB
      go_wp2
      go_roundw
      case rel => exact ⟨k + 1, by omega, by go_num, n1, n2, n3⟩
      case measure => simp [intOf]; omega
     ·obtain rfl : k = 32 := by omega
      have hf := HFIN.out _ g1 g2 h1 h2 h3 KX.out KY.out KB.out
      have HF := LH hf
      clear hf HFIN KX KY KB HDS
      go_wp2
      go_ret2
      exact ⟨_, _, rfl, HF.out⟩
end Go.Proofs.YtckbhciehmokdaaGreatDoor
