import Derived.Test.YtckbhciehmokdaaGreatDoorDrng
import Derived.Test.YtckbhciehmokdaaGreatDoorQtail
import Derived.Test.YtckbhciehmokdaaGreatDoorHcodes
import Derived.Test.YtckbhciehmokdaaGreatDoorNrng
import Derived.Test.YtckbhciehmokdaaGreatDoorSlone
namespace Go.Proofs.YtckbhciehmokdaaGreatDoor
set_option maxRecDepth 100000
set_option maxHeartbeats 8000000
open Go Go.RowKit Go.Shelf
def noDefer (ops : Array Oper) : Bool := ops.toList.all fun o => match o.op with | .defer _ => false | _ => true
theorem noDefer_at {ops : Array Oper} (h : noDefer ops = true) {i : Nat} {o : Oper} (ho : ops[i]? = some o) : ∀ c, o.op ≠ .defer c := by
 intro c e
 have hm : o ∈ ops.toList := by
  rw [<- Array.getElem?_toList] at ho
  exact List.mem_of_getElem? ho
 have := List.all_eq_true.1 h o hm
 rw [e] at this
 cases this
theorem upon_round {F : Fence} {n : Nat} {P : Program} {o : Oper} {a : Act} {K : Act -> World -> Prop} {Q : Exit -> Act -> World -> Prop} (l : Nat) {r : Result Next} (h : o.uponIn F n P a K Q r) : o.uponIn (F.inRound l) n P a K Q r := by
 cases r with
 | ok x w' => cases x <;> exact h
 | halt x w' => cases x <;> exact h
theorem wpAny_round {F : Fence} {n : Nat} {P : Program} {md : Region.Mode} {ops : Array Oper} {Q : Exit -> Act -> World -> Prop} (l : Nat) (hd : noDefer ops = true) :
  ∀ (fuel : Nat) (listed : Array Bool) (a : Act) (w : World), wpAnyIn F n P md ops Q fuel listed a w -> wpAnyIn (F.inRound l) n P md ops Q fuel listed a w := by
 intro fuel
 induction fuel with
 | zero => intro listed a w h; exact h
 | succ fuel ih =>
  intro listed a w h
  refine ⟨h.1, fun i hi => ?_⟩
  have h2 := wpOpIn_mono (K' := wpAnyIn (F.inRound l) n P md ops Q fuel (listed.setIfInBounds i true)) (fun a w h => ih _ a w h) (h.2 i hi)
  unfold wpOpIn at h2 ⊢
  split
  ·rename_i ho; rw [ho] at h2; exact h2
  ·rename_i o ho
   rw [ho] at h2
   simp only at h2 ⊢
   split
   ·rename_i hw
    rw [if_pos hw] at h2
    unfold Oper.wpIn at h2 ⊢
    refine ⟨h2.1, ?_⟩
    have e : o.semAt (F.inRound l).round a.eval = o.semAt F.round a.eval := by
     rw [Oper.semAt_eq _ _ _ (noDefer_at hd ho), Oper.semAt_eq _ _ _ (noDefer_at hd ho)]
    rw [e]
    exact upon_round l h2.2
   ·rename_i hw
    rw [if_neg hw] at h2
    exact h2
end Go.Proofs.YtckbhciehmokdaaGreatDoor
namespace Go.Proofs.YtckbhciehmokdaaGreatDoor
set_option maxRecDepth 100000
set_option maxHeartbeats 8000000
open Go.RowKit Go.Shelf
attribute [local go_sem] Oper.semAt_some
def newE (zs : List Int) : Int := if chk zs = 12 /\ Lone (nat zs) then 0 else chk zs
def cnt (ps : List (Nat × Nat)) (l : Nat) : Nat := (ps.filter fun p => p.2 == l).length
end Go.Proofs.YtckbhciehmokdaaGreatDoor
namespace Go.Proofs.YtckbhciehmokdaaGreatDoor
set_option maxRecDepth 100000
set_option maxHeartbeats 8000000
namespace Hd
open Classical in
noncomputable def rd (ls : List Nat) (l : List Bool) (p : Nat) : Nat × Nat × Int := if h : ∃ r, Hf.Rd ls l p 0 r then h.choose else (0, 0, 0)
theorem rd_is {ls : List Nat} {l : List Bool} {p : Nat} {r : Nat × Nat × Int} (h : Hf.Rd ls l p 0 r) : rd ls l p = r := by
 unfold rd
 have hx : ∃ r, Hf.Rd ls l p 0 r := ⟨r, h⟩
 rw [dif_pos hx]
 exact Hf.rd_one hx.choose_spec h
theorem rd_facts {ls : List Nat} {l : List Bool} {p j : Nat} {r : Nat × Nat × Int} (h : Hf.Rd ls l p j r) : (r.2.2 = 0 -> r.1 < ls.length /\ p + j < r.2.1 /\ r.2.1 <= l.length) /\ (r.2.2 ≠ 0 -> r.1 = 0 /\ r.2.1 = 0) /\ (r.2.2 = 0 ∨ r.2.2 = 4 ∨ r.2.2 = 13) := by
 induction h with
 | short j h1 h2 => refine ⟨fun h => ?_, fun _ => ⟨rfl, rfl⟩, Or.inr (Or.inl rfl)⟩; simp at h
 | hit j k h1 h2 h3 =>
  have h4 := (Hf.sy_mem ls k h3.1).1
  generalize Hf.sy ls k = s at h4 ⊢
  refine ⟨fun _ => ⟨h4, ?_, ?_⟩, fun h => ?_, Or.inl rfl⟩
  ·simp only; omega
  ·simp only; omega
  ·simp at h
 | miss j h1 h2 h3 h4 => refine ⟨fun h => ?_, fun _ => ⟨rfl, rfl⟩, Or.inr (Or.inr rfl)⟩; simp at h
 | next j k r h1 h2 h3 h4 h5 ih => exact ⟨fun h => by have := ih.1 h; omega, ih.2.1, ih.2.2⟩
 | last => refine ⟨fun h => ?_, fun _ => ⟨rfl, rfl⟩, Or.inr (Or.inr rfl)⟩; simp at h
def num (l : List Bool) (p n : Nat) : Nat := Bs.num ((l.drop p).take n)
theorem num_lt (l : List Bool) (p n : Nat) : num l p n < 2 ^ n :=
 Nat.lt_of_lt_of_le (Bs.num_lt _) (Nat.pow_le_pow_right (by omega) (List.length_take_le _ _))
def ex (s : Nat) : Nat := if s = 16 then 2 else if s = 17 then 3 else if s = 18 then 7 else 0
def least (s : Nat) : Nat := if s = 16 then 3 else if s = 17 then 3 else if s = 18 then 11 else 1
def val (acc : List Nat) (s : Nat) : Nat := if s = 16 then acc[acc.length - 1]?.getD 0 else if s = 17 ∨ s = 18 then 0 else s
theorem ex_le (s : Nat) : ex s <= 7 := by unfold ex; split <;> (try split) <;> (try split) <;> omega
theorem least_le (s : Nat) : 1 <= least s /\ least s <= 11 := by unfold least; split <;> (try split) <;> (try split) <;> omega
def take (acc : List Nat) (s v n : Nat) : List Nat × Int :=
 if s = 16 /\ acc.length = 0 then ([], 9) else if n < acc.length + (least s + v) then ([], 3) else (acc ++ List.replicate (least s + v) (val acc s), 0)
noncomputable def runs (ls : List Nat) (l : List Bool) (n : Nat) : Nat -> List Nat -> Nat -> List Nat × Nat × Int
 | 0, acc, p => (acc, p, 0)
 | k + 1, acc, p =>
  if n <= acc.length then (acc, p, 0) else
  if (rd ls l p).2.2 ≠ 0 then ([], 0, (rd ls l p).2.2) else
  if l.length < (rd ls l p).2.1 + ex (rd ls l p).1 then ([], 0, 4) else
  if (take acc (rd ls l p).1 (num l (rd ls l p).2.1 (ex (rd ls l p).1)) n).2 ≠ 0 then ([], 0, (take acc (rd ls l p).1 (num l (rd ls l p).2.1 (ex (rd ls l p).1)) n).2) else
  runs ls l n k (take acc (rd ls l p).1 (num l (rd ls l p).2.1 (ex (rd ls l p).1)) n).1 ((rd ls l p).2.1 + ex (rd ls l p).1)
theorem runs_done (ls : List Nat) (l : List Bool) (n k : Nat) (acc : List Nat) (p : Nat) (h : n <= acc.length) : runs ls l n k acc p = (acc, p, 0) := by
 cases k with
 | zero => rfl
 | succ k => simp only [runs]; rw [if_pos h]
theorem runs_sym (ls : List Nat) (l : List Bool) (n k : Nat) (acc : List Nat) (p q s : Nat) (c : Int) (h : acc.length < n) (hk : 0 < k) (hr : rd ls l p = (s, q, c)) (hc : c ≠ 0) : runs ls l n k acc p = ([], 0, c) := by
 cases k with
 | zero => omega
 | succ k => simp only [runs]; rw [if_neg (by omega), hr, if_pos hc]
theorem runs_short (ls : List Nat) (l : List Bool) (n k : Nat) (acc : List Nat) (p q s : Nat) (h : acc.length < n) (hk : 0 < k) (hr : rd ls l p = (s, q, 0)) (hs : l.length < q + ex s) : runs ls l n k acc p = ([], 0, 4) := by
 cases k with
 | zero => omega
 | succ k => simp only [runs]; rw [if_neg (by omega), hr, if_neg (by simp), if_pos hs]
theorem runs_take (ls : List Nat) (l : List Bool) (n k : Nat) (acc : List Nat) (p q s v : Nat) (x : List Nat) (c : Int) (h : acc.length < n) (hk : 0 < k) (hr : rd ls l p = (s, q, 0)) (hs : q + ex s <= l.length) (hv : v = num l q (ex s)) (ht : take acc s v n = (x, c)) :
  runs ls l n k acc p = if c ≠ 0 then ([], 0, c) else runs ls l n (k - 1) x (q + ex s) := by
 cases k with
 | zero => omega
 | succ k => subst hv; simp only [runs]; rw [if_neg (by omega), hr, if_neg (by simp), if_neg (by simp only; omega)]; simp only [ht]; rfl
theorem take_length {acc : List Nat} {s v n : Nat} {x : List Nat} (h : take acc s v n = (x, 0)) : acc.length < x.length /\ x.length <= n := by
 unfold take at h
 split at h
 ·simp at h
 ·split at h
  ·simp at h
  ·obtain ⟨rfl, _⟩ := Prod.mk.inj h
   have := least_le s
   rw [List.length_append, List.length_replicate]
   omega
def ord (k : Nat) : Nat := [16, 17, 18, 0, 8, 7, 9, 6, 10, 5, 11, 4, 12, 3, 13, 2, 14, 1, 15][k]?.getD 0
theorem ord_lt (k : Nat) : ord k < 19 := by
 by_cases h : k < 19
 ·exact (by decide : ∀ k : Fin 19, ord k.1 < 19) ⟨k, h⟩
 ·unfold ord; rw [List.getElem?_eq_none (by simp; omega)]; decide
def cl (l : List Bool) (p : Nat) : Nat -> List Nat
 | 0 => List.replicate 19 0
 | k + 1 => (cl l p k).set (ord k) (num l (p + 3 * k) 3)
theorem cl_length (l : List Bool) (p k : Nat) : (cl l p k).length = 19 := by
 induction k with
 | zero => simp [cl]
 | succ k ih => simp [cl, ih]
def zz (ls : List Nat) : List Int := ls.map fun (x : Nat) => (x : Int)
theorem zz_length (ls : List Nat) : (zz ls).length = ls.length := by simp [zz]
theorem nat_zz (ls : List Nat) : nat (zz ls) = ls := by simp [nat, zz, Function.comp_def]
theorem zz_get (ls : List Nat) (i : Nat) : (zz ls)[i]?.getD 0 = ((ls[i]?.getD 0 : Nat) : Int) := by
 unfold zz; rw [List.getElem?_map]; cases ls[i]? <;> rfl
noncomputable def head (l : List Bool) (p : Nat) : List Nat × List Nat × Nat × Int :=
 if l.length < p + 10 then ([], [], 0, 4) else
 if 286 < num l p 5 + 257 ∨ 30 < num l (p + 5) 5 + 1 then ([], [], 0, 3) else
 if l.length < p + 14 then ([], [], 0, 4) else
 if l.length < p + 14 + 3 * (num l (p + 10) 4 + 4) then ([], [], 0, 4) else
 if newE (zz (cl l (p + 14) (num l (p + 10) 4 + 4))) ≠ 0 then ([], [], 0, newE (zz (cl l (p + 14) (num l (p + 10) 4 + 4)))) else
 if (runs (cl l (p + 14) (num l (p + 10) 4 + 4)) l (num l p 5 + 257 + (num l (p + 5) 5 + 1)) 400 [] (p + 14 + 3 * (num l (p + 10) 4 + 4))).2.2 ≠ 0 then
  ([], [], 0, (runs (cl l (p + 14) (num l (p + 10) 4 + 4)) l (num l p 5 + 257 + (num l (p + 5) 5 + 1)) 400 [] (p + 14 + 3 * (num l (p + 10) 4 + 4))).2.2) else
 ((runs (cl l (p + 14) (num l (p + 10) 4 + 4)) l (num l p 5 + 257 + (num l (p + 5) 5 + 1)) 400 [] (p + 14 + 3 * (num l (p + 10) 4 + 4))).1.take (num l p 5 + 257),
  (runs (cl l (p + 14) (num l (p + 10) 4 + 4)) l (num l p 5 + 257 + (num l (p + 5) 5 + 1)) 400 [] (p + 14 + 3 * (num l (p + 10) 4 + 4))).1.drop (num l p 5 + 257),
  (runs (cl l (p + 14) (num l (p + 10) 4 + 4)) l (num l p 5 + 257 + (num l (p + 5) 5 + 1)) 400 [] (p + 14 + 3 * (num l (p + 10) 4 + 4))).2.1, 0)
end Hd
end Go.Proofs.YtckbhciehmokdaaGreatDoor
namespace Go.Proofs.YtckbhciehmokdaaGreatDoor
set_option maxRecDepth 100000
set_option maxHeartbeats 8000000
namespace Hd
theorem head_e1 {l : List Bool} {p : Nat} (h : l.length < p + 10) : head l p = ([], [], 0, 4) := by unfold head; rw [if_pos h]
theorem head_e3 {l : List Bool} {p a b : Nat} (h : p + 10 <= l.length) (ha : a = num l p 5 + 257) (hb : b = num l (p + 5) 5 + 1) (h3 : 286 < a ∨ 30 < b) : head l p = ([], [], 0, 3) := by
 subst ha hb; unfold head; rw [if_neg (by omega), if_pos h3]
theorem head_e4 {l : List Bool} {p a b : Nat} (h : p + 10 <= l.length) (ha : a = num l p 5 + 257) (hb : b = num l (p + 5) 5 + 1) (h3 : ¬ (286 < a ∨ 30 < b)) (h4 : l.length < p + 14) : head l p = ([], [], 0, 4) := by
 subst ha hb; unfold head; rw [if_neg (by omega), if_neg h3, if_pos h4]
theorem head_e5 {l : List Bool} {p a b c : Nat} (h : p + 14 <= l.length) (ha : a = num l p 5 + 257) (hb : b = num l (p + 5) 5 + 1) (hc : c = num l (p + 10) 4 + 4) (h3 : ¬ (286 < a ∨ 30 < b)) (h5 : l.length < p + 14 + 3 * c) : head l p = ([], [], 0, 4) := by
 subst ha hb hc; unfold head; rw [if_neg (by omega), if_neg h3, if_neg (by omega), if_pos h5]
theorem head_e6 {l : List Bool} {p a b c : Nat} {ls : List Nat} (h : p + 14 <= l.length) (ha : a = num l p 5 + 257) (hb : b = num l (p + 5) 5 + 1) (hc : c = num l (p + 10) 4 + 4) (hls : ls = cl l (p + 14) c) (h3 : ¬ (286 < a ∨ 30 < b)) (h5 : p + 14 + 3 * c <= l.length)
  (h6 : newE (zz ls) ≠ 0) : head l p = ([], [], 0, newE (zz ls)) := by
 subst ha hb hc hls; unfold head; rw [if_neg (by omega), if_neg h3, if_neg (by omega), if_neg (by omega), if_pos h6]
theorem head_run {l : List Bool} {p a b c : Nat} {ls : List Nat} (h : p + 14 <= l.length) (ha : a = num l p 5 + 257) (hb : b = num l (p + 5) 5 + 1) (hc : c = num l (p + 10) 4 + 4) (hls : ls = cl l (p + 14) c) (h3 : ¬ (286 < a ∨ 30 < b)) (h5 : p + 14 + 3 * c <= l.length)
  (h6 : newE (zz ls) = 0) : head l p = if (runs ls l (a + b) 400 [] (p + 14 + 3 * c)).2.2 ≠ 0 then ([], [], 0, (runs ls l (a + b) 400 [] (p + 14 + 3 * c)).2.2) else
   ((runs ls l (a + b) 400 [] (p + 14 + 3 * c)).1.take a, (runs ls l (a + b) 400 [] (p + 14 + 3 * c)).1.drop a, (runs ls l (a + b) 400 [] (p + 14 + 3 * c)).2.1, 0) := by
 subst ha hb hc hls; unfold head; rw [if_neg (by omega), if_neg h3, if_neg (by omega), if_neg (by omega), if_neg (by rw [h6]; simp)]
theorem rd_ex (ls : List Nat) (l : List Bool) (p : Nat) : ∀ d j, 15 - j = d -> j <= 15 -> p + j <= l.length -> ∃ r, Hf.Rd ls l p j r := by
 intro d
 induction d with
 | zero =>
  intro j h1 h2 h3
  obtain rfl : j = 15 := by omega
  exact ⟨_, Hf.Rd.last⟩
 | succ d ih =>
  intro j h1 h2 h3
  by_cases hl : p + j = l.length
  ·exact ⟨_, Hf.Rd.short j (by omega) hl⟩
  ·by_cases hh : ∃ k, Hf.Hit ls l p (j + 1) k
   ·obtain ⟨k, hk⟩ := hh
    exact ⟨_, Hf.Rd.hit j k (by omega) (by omega) hk⟩
   ·by_cases hb : ∃ k, Hf.Beg ls l p (j + 1) k
    ·obtain ⟨k, hk⟩ := hb
     obtain ⟨r, hr⟩ := ih (j + 1) (by omega) (by omega) (by omega)
     exact ⟨r, Hf.Rd.next j k r (by omega) (by omega) (fun k h => hh ⟨k, h⟩) hk hr⟩
    ·exact ⟨_, Hf.Rd.miss j (by omega) (by omega) (fun k h => hh ⟨k, h⟩) (fun k h => hb ⟨k, h⟩)⟩
theorem rd_lt {ls : List Nat} {l : List Bool} {p y q : Nat} {c : Int} (hp : p <= l.length) (h : rd ls l p = (y, q, c)) : (c = 0 -> y < ls.length /\ p < q /\ q <= l.length) /\ (c = 0 ∨ c = 4 ∨ c = 13) := by
 obtain ⟨r, hr⟩ := rd_ex ls l p 15 0 rfl (by omega) (by omega)
 have h1 := rd_is hr
 rw [h] at h1
 have h2 := rd_facts hr
 rw [<- h1] at h2
 exact ⟨fun h0 => by have := h2.1 h0; simpa using this, h2.2.2⟩
def fin (a : Nat) (r : List Nat × Nat × Int) : List Nat × List Nat × Nat × Int := if r.2.2 ≠ 0 then ([], [], 0, r.2.2) else (r.1.take a, r.1.drop a, r.2.1, 0)
theorem fin_bad (a : Nat) (x : List Nat) (q : Nat) (c : Int) (h : c ≠ 0) : fin a (x, q, c) = ([], [], 0, c) := by unfold fin; rw [if_pos h]
theorem fin_ok (a : Nat) (x : List Nat) (q : Nat) : fin a (x, q, 0) = (x.take a, x.drop a, q, 0) := by unfold fin; rw [if_neg (by simp)]
end Hd
end Go.Proofs.YtckbhciehmokdaaGreatDoor
namespace Go.Proofs.YtckbhciehmokdaaGreatDoor
set_option maxRecDepth 100000
set_option maxHeartbeats 8000000
namespace If
open Hd (num rd head)
def cp (far : Nat) : Nat -> List Nat -> List Nat
 | 0, out => out
 | n + 1, out => cp far n (out ++ [out[out.length - far]?.getD 0])
theorem cp_length (far n : Nat) (out : List Nat) : (cp far n out).length = out.length + n := by
 induction n generalizing out with
 | zero => rfl
 | succ n ih => simp only [cp]; rw [ih, List.length_append]; simp; omega
noncomputable def copy (l : List Bool) (dist : List Nat) (most s p : Nat) (out : List Nat) : List Nat × Nat × Int :=
 if 286 <= s then ([], 0, 13) else
 if l.length < p + Sy.at' Sy.lb (s - 257) then ([], 0, 4) else
 if ∀ x ∈ dist, x = 0 then ([], 0, 13) else
 if (rd dist l (p + Sy.at' Sy.lb (s - 257))).2.2 ≠ 0 then ([], 0, (rd dist l (p + Sy.at' Sy.lb (s - 257))).2.2) else
 if 30 <= (rd dist l (p + Sy.at' Sy.lb (s - 257))).1 then ([], 0, 13) else
 if l.length < (rd dist l (p + Sy.at' Sy.lb (s - 257))).2.1 + Sy.at' Sy.db (rd dist l (p + Sy.at' Sy.lb (s - 257))).1 then ([], 0, 4) else
 if out.length < Sy.at' Sy.df (rd dist l (p + Sy.at' Sy.lb (s - 257))).1 + num l (rd dist l (p + Sy.at' Sy.lb (s - 257))).2.1 (Sy.at' Sy.db (rd dist l (p + Sy.at' Sy.lb (s - 257))).1) then ([], 0, 14) else
 if most < out.length + (Sy.at' Sy.lf (s - 257) + num l p (Sy.at' Sy.lb (s - 257))) then ([], 0, 3) else
 (cp (Sy.at' Sy.df (rd dist l (p + Sy.at' Sy.lb (s - 257))).1 + num l (rd dist l (p + Sy.at' Sy.lb (s - 257))).2.1 (Sy.at' Sy.db (rd dist l (p + Sy.at' Sy.lb (s - 257))).1)) (Sy.at' Sy.lf (s - 257) + num l p (Sy.at' Sy.lb (s - 257))) out,
  (rd dist l (p + Sy.at' Sy.lb (s - 257))).2.1 + Sy.at' Sy.db (rd dist l (p + Sy.at' Sy.lb (s - 257))).1, 0)
noncomputable def syms (l : List Bool) (lit dist : List Nat) (most : Nat) : Nat -> List Nat -> Nat -> List Nat × Nat × Int
 | 0, out, p => (out, p, 0)
 | k + 1, out, p =>
  if (rd lit l p).2.2 ≠ 0 then ([], 0, (rd lit l p).2.2) else
  if (rd lit l p).1 = 256 then (out, (rd lit l p).2.1, 0) else
  if 256 < (rd lit l p).1 then
   (if (copy l dist most (rd lit l p).1 (rd lit l p).2.1 out).2.2 ≠ 0 then ([], 0, (copy l dist most (rd lit l p).1 (rd lit l p).2.1 out).2.2) else
    syms l lit dist most k (copy l dist most (rd lit l p).1 (rd lit l p).2.1 out).1 (copy l dist most (rd lit l p).1 (rd lit l p).2.1 out).2.1) else
  if most <= out.length then ([], 0, 3) else
  syms l lit dist most k (out ++ [(rd lit l p).1]) (rd lit l p).2.1
def up (p : Nat) : Nat := (p + 7) / 8 * 8
def stored (l : List Bool) (most p : Nat) (out : List Nat) : List Nat × Nat × Int :=
 if l.length < up p + 32 then ([], 0, 4) else
 if num l (up p) 16 + num l (up p + 16) 16 ≠ 65535 ∨ num l (up p) 16 &&& num l (up p + 16) 16 ≠ 0 then ([], 0, 5) else
 if most < out.length + num l (up p) 16 then ([], 0, 3) else
 if l.length < up p + 32 + 8 * num l (up p) 16 then ([], 0, 4) else
 (out ++ (List.range (num l (up p) 16)).map fun i => Bs.byteAt l ((up p + 32) / 8 + i), up p + 32 + 8 * num l (up p) 16, 0)
def fixL : List Nat := List.replicate 144 8 ++ List.replicate 112 9 ++ List.replicate 24 7 ++ List.replicate 8 8
def fixD : List Nat := List.replicate 32 5
noncomputable def dynamic (l : List Bool) (most p : Nat) (out : List Nat) : List Nat × Nat × Int :=
 if (head l p).2.2.2 ≠ 0 then ([], 0, (head l p).2.2.2) else
 if (head l p).1[256]?.getD 0 = 0 then ([], 0, 13) else
 if newE (Hd.zz (head l p).1) ≠ 0 then ([], 0, newE (Hd.zz (head l p).1)) else
 if newE (Hd.zz (head l p).2.1) ≠ 0 /\ ¬ (∀ x ∈ (head l p).2.1, x = 0) then ([], 0, newE (Hd.zz (head l p).2.1)) else
 syms l (head l p).1 (head l p).2.1 most (l.length + 1) out (head l p).2.2.1
noncomputable def block (l : List Bool) (most p : Nat) (out : List Nat) : List Nat × Nat × Int :=
 if l.length < p + 3 then ([], 0, 4) else
 if num l (p + 1) 2 = 0 then stored l most (p + 3) out else
 if num l (p + 1) 2 = 1 then syms l fixL fixD most (l.length + 1) out (p + 3) else
 if num l (p + 1) 2 = 2 then dynamic l most (p + 3) out else ([], 0, 13)
noncomputable def blocks (l : List Bool) (most : Nat) : Nat -> List Nat -> Nat -> List Nat × Nat × Int
 | 0, out, p => (out, p, 0)
 | k + 1, out, p =>
  if (block l most p out).2.2 ≠ 0 then ([], 0, (block l most p out).2.2) else
  if num l p 1 = 1 then ((block l most p out).1, (block l most p out).2.1, 0) else blocks l most k (block l most p out).1 (block l most p out).2.1
noncomputable def decode (l : List Bool) (most : Int) : List Nat × Nat × Int :=
 if most < 0 ∨ 65536 < most then ([], 0, 2) else
 if (blocks l most.toNat (l.length + 1) [] 0).2.2 ≠ 0 then ([], 0, (blocks l most.toNat (l.length + 1) [] 0).2.2) else
 ((blocks l most.toNat (l.length + 1) [] 0).1, ((blocks l most.toNat (l.length + 1) [] 0).2.1 + 7) / 8, 0)
end If
end Go.Proofs.YtckbhciehmokdaaGreatDoor
namespace Go.Proofs.YtckbhciehmokdaaGreatDoor
set_option maxRecDepth 100000
set_option maxHeartbeats 8000000
namespace If
open Hd (num rd head)
def bb (bs : List Nat) : List Bool := Bs.bitsFrom bs (8 * bs.length)
theorem bb_length (bs : List Nat) : (bb bs).length = 8 * bs.length := Bs.bitsFrom_length _ _
theorem bb_pack (bs : List Nat) (h8 : ∀ x ∈ bs, x < 256) : Bs.pack (bb bs) = bs := Bs.pack_bitsFrom bs _ ⟨by omega, Or.inl (by omega)⟩ h8
theorem bb_byte (bs : List Nat) (h8 : ∀ x ∈ bs, x < 256) (j : Nat) (hj : j < bs.length) : Bs.byteAt (bb bs) j = bs[j]?.getD 0 := by
 have h : (Bs.pack (bb bs))[j]?.getD 0 = Bs.byteAt (bb bs) j := Bs.packTo_get _ _ _ (by rw [bb_length]; omega)
 rw [bb_pack bs h8] at h
 exact h.symm
theorem num_append (a b : List Bool) : Bs.num (a ++ b) = Bs.num a + 2 ^ a.length * Bs.num b := by
 induction a with
 | nil => simp [Bs.num]
 | cons x a ih =>
  simp only [List.cons_append, Bs.num, ih, List.length_cons, Nat.pow_succ]
  generalize Bs.num b = q
  generalize 2 ^ a.length = r
  have : r * 2 * q = 2 * (r * q) := by rw [Nat.mul_comm r 2, Nat.mul_assoc]
  omega
theorem num_split (l : List Bool) (p n m : Nat) (h : p + n <= l.length) : num l p (n + m) = num l p n + 2 ^ n * num l (p + n) m := by
 unfold num
 rw [List.take_add, num_append, List.drop_drop, List.length_take, List.length_drop, Nat.min_eq_left (by omega)]
theorem num16 (l : List Bool) (j : Nat) (h : 8 * j + 8 <= l.length) : num l (8 * j) 16 = Bs.byteAt l j + 256 * Bs.byteAt l (j + 1) := by
 rw [num_split l (8 * j) 8 8 h]
 rfl
theorem num_first (l : List Bool) (j f : Nat) (h : 8 * j + 8 <= l.length) (hf : Bs.byteAt l j = f) (h1 : f <= 1) : num l (8 * j) 1 = f /\ num l (8 * j + 1) 2 = 0 := by
 have e1 := num_split l (8 * j) 1 7 (by omega)
 have e2 := num_split l (8 * j + 1) 2 5 (by omega)
 have e3 : num l (8 * j) 8 = f := hf
 rw [show 1 + 7 = 8 from rfl, e3] at e1
 rw [show 2 + 5 = 7 from rfl] at e2
 omega
def blk (f : Nat) (x : List Nat) : List Nat := [f, x.length % 256, x.length / 256, 255 - x.length % 256, 255 - x.length / 256] ++ x
theorem blk_length (f : Nat) (x : List Nat) : (blk f x).length = 5 + x.length := by simp [blk]; omega
theorem blk_lt (f : Nat) (x : List Nat) (hf : f <= 1) (hx : x.length < 65536) (h8 : ∀ y ∈ x, y < 256) : ∀ y ∈ blk f x, y < 256 := by
 intro y hy
 simp only [blk, List.cons_append, List.nil_append, List.mem_cons] at hy
 rcases hy with rfl | rfl | rfl | rfl | rfl | hy
 ·omega
 ·omega
 ·omega
 ·omega
 ·omega
 ·exact h8 y hy
theorem and_turned (n : Nat) (h : n < 65536) : n &&& (65535 - n) = 0 := by
 apply Nat.eq_of_testBit_eq
 intro i
 rw [Nat.testBit_and, Nat.zero_testBit, show 65535 - n = 2 ^ 16 - (n + 1) by omega, Nat.testBit_two_pow_sub_succ (by omega)]
 cases n.testBit i <;> simp
theorem stored_block (pre x post : List Nat) (f most : Nat) (out : List Nat) (hf : f <= 1) (hx : x.length < 65536) (h8 : ∀ y ∈ pre ++ blk f x ++ post, y < 256) (hr : out.length + x.length <= most) :
  block (bb (pre ++ blk f x ++ post)) most (8 * pre.length) out = (out ++ x, 8 * (pre ++ blk f x).length, 0) /\ num (bb (pre ++ blk f x ++ post)) (8 * pre.length) 1 = f := by
 have hB := bb_byte _ h8
 have hL := bb_length (pre ++ blk f x ++ post)
 have hlen : (pre ++ blk f x ++ post).length = pre.length + 5 + x.length + post.length := by simp only [List.length_append, blk_length]; omega
 have hat : ∀ j, j < 5 + x.length -> (pre ++ blk f x ++ post)[pre.length + j]?.getD 0 = (blk f x)[j]?.getD 0 := by
  intro j hj
  rw [List.append_assoc, List.getElem?_append_right (by omega), List.getElem?_append_left (by rw [blk_length]; omega)]
  congr 2
  omega
 generalize pre ++ blk f x ++ post = bs at *
 rw [hlen] at hL
 obtain ⟨n1, n2⟩ := num_first (bb bs) pre.length f (by omega) (by rw [hB _ (by omega)]; have := hat 0 (by omega); rw [Nat.add_zero] at this; rw [this]; rfl) hf
 have n3 : num (bb bs) (8 * (pre.length + 1)) 16 = x.length := by
  rw [num16 _ _ (by omega), hB _ (by omega), hB _ (by omega), hat 1 (by omega), show pre.length + 1 + 1 = pre.length + 2 from rfl, hat 2 (by omega)]
  show x.length % 256 + 256 * (x.length / 256) = x.length
  omega
 have n4 : num (bb bs) (8 * (pre.length + 1) + 16) 16 = 65535 - x.length := by
  rw [show 8 * (pre.length + 1) + 16 = 8 * (pre.length + 3) by omega, num16 _ _ (by omega), hB _ (by omega), hB _ (by omega), hat 3 (by omega), show pre.length + 3 + 1 = pre.length + 4 from rfl, hat 4 (by omega)]
  show 255 - x.length % 256 + 256 * (255 - x.length / 256) = 65535 - x.length
  omega
 refine ⟨?_, n1⟩
 unfold block
 rw [if_neg (by rw [hL]; omega), if_pos n2]
 unfold stored
 have e : up (8 * pre.length + 3) = 8 * (pre.length + 1) := by unfold up; omega
 rw [e, n3, n4, if_neg (by rw [hL]; omega), if_neg (by rw [and_turned _ hx]; omega), if_neg (by omega), if_neg (by rw [hL]; omega)]
 have e2 : (List.range x.length).map (fun i => Bs.byteAt (bb bs) ((8 * (pre.length + 1) + 32) / 8 + i)) = x := by
  apply List.ext_getElem?
  intro i
  by_cases hi : i < x.length
  ·rw [List.getElem?_map, List.getElem?_range hi, Option.map_some, show (8 * (pre.length + 1) + 32) / 8 + i = pre.length + (5 + i) by omega, hB _ (by omega), hat (5 + i) (by omega)]
   rw [List.getElem?_eq_getElem hi]
   have : (blk f x)[5 + i]? = x[i]? := by
    unfold blk
    rw [List.getElem?_append_right (by simp)]
    congr 1
    simp
   rw [this, List.getElem?_eq_getElem hi]
   rfl
  ·rw [List.getElem?_eq_none (by simp; omega), List.getElem?_eq_none (by omega)]
 rw [e2, List.length_append, blk_length]
 congr 2
 omega
def strm : List (List Nat) -> List Nat
 | [] => []
 | [x] => blk 1 x
 | x :: y :: r => blk 0 x ++ strm (y :: r)
theorem strm_lt : ∀ (L : List (List Nat)), (∀ x ∈ L, x.length < 65536) -> (∀ x ∈ L, ∀ y ∈ x, y < 256) -> ∀ y ∈ strm L, y < 256
 | [], _, _, y, h => by simp [strm] at h
 | [x], h1, h2, y, h => blk_lt 1 x (by omega) (h1 x (by simp)) (h2 x (by simp)) y h
 | x :: z :: r, h1, h2, y, h => by
  simp only [strm, List.mem_append] at h
  rcases h with h | h
  ·exact blk_lt 0 x (by omega) (h1 x (by simp)) (h2 x (by simp)) y h
  ·exact strm_lt (z :: r) (fun a ha => h1 a (List.mem_cons_of_mem _ ha)) (fun a ha => h2 a (List.mem_cons_of_mem _ ha)) y h
theorem strm_length : ∀ (L : List (List Nat)), L.length <= (strm L).length
 | [] => by simp [strm]
 | [x] => by simp [strm, blk_length]; omega
 | x :: z :: r => by have := strm_length (z :: r); simp only [strm, List.length_append, blk_length, List.length_cons] at this ⊢; omega
theorem stored_blocks (most : Nat) : ∀ (L : List (List Nat)) (pre out : List Nat) (k : Nat), L ≠ [] -> (∀ x ∈ L, x.length < 65536) -> (∀ y ∈ pre, y < 256) -> (∀ x ∈ L, ∀ y ∈ x, y < 256) -> out.length + L.flatten.length <= most -> L.length <= k ->
  blocks (bb (pre ++ strm L)) most k out (8 * pre.length) = (out ++ L.flatten, 8 * (pre ++ strm L).length, 0)
 | [], _, _, _, h, _, _, _, _, _ => absurd rfl h
 | [x], pre, out, 0, _, _, _, _, _, h => by simp at h
 | [x], pre, out, k + 1, _, h1, h2, h3, h4, _ => by
  simp only [List.flatten_cons, List.flatten_nil, List.append_nil] at h4 ⊢
  obtain ⟨e1, e2⟩ := stored_block pre x [] 1 most out (by omega) (h1 x (by simp)) (by
   intro y hy
   simp only [List.append_nil, List.mem_append] at hy
   rcases hy with hy | hy
   ·exact h2 y hy
   ·exact blk_lt 1 x (by omega) (h1 x (by simp)) (h3 x (by simp)) y hy) h4
  rw [List.append_nil] at e1 e2
  show blocks (bb (pre ++ blk 1 x)) most (k + 1) out (8 * pre.length) = _
  simp only [blocks]
  rw [e1, e2, if_neg (by simp), if_pos rfl]
  rfl
 | x :: z :: r, pre, out, 0, _, _, _, _, _, h => by simp at h
 | x :: z :: r, pre, out, k + 1, _, h1, h2, h3, h4, h5 => by
  have hz1 : ∀ a ∈ z :: r, a.length < 65536 := fun a ha => h1 a (List.mem_cons_of_mem _ ha)
  have hz3 : ∀ a ∈ z :: r, ∀ y ∈ a, y < 256 := fun a ha => h3 a (List.mem_cons_of_mem _ ha)
  have hb := blk_lt 0 x (by omega) (h1 x (by simp)) (h3 x (by simp))
  rw [List.flatten_cons] at h4 ⊢
  rw [List.length_append] at h4
  obtain ⟨e1, e2⟩ := stored_block pre x (strm (z :: r)) 0 most out (by omega) (h1 x (by simp)) (by
   intro y hy
   simp only [List.mem_append] at hy
   rcases hy with (hy | hy) | hy
   ·exact h2 y hy
   ·exact hb y hy
   ·exact strm_lt _ hz1 hz3 y hy) (by omega)
  have ih := stored_blocks most (z :: r) (pre ++ blk 0 x) (out ++ x) k (by simp) hz1 (by
   intro y hy
   rw [List.mem_append] at hy
   rcases hy with hy | hy
   ·exact h2 y hy
   ·exact hb y hy) hz3 (by rw [List.length_append]; omega) (by simpa using h5)
  have e0 : pre ++ strm (x :: z :: r) = pre ++ blk 0 x ++ strm (z :: r) := by simp [strm]
  rw [e0]
  simp only [blocks]
  rw [e1, e2, if_neg (by simp), if_neg (by simp)]
  simp only
  rw [ih, List.append_assoc out x]
theorem stored_decode (L : List (List Nat)) (most : Int) (h0 : L ≠ []) (h1 : ∀ x ∈ L, x.length < 65536) (h3 : ∀ x ∈ L, ∀ y ∈ x, y < 256) (h4 : (L.flatten.length : Int) <= most) (h5 : most <= 65536) :
  decode (bb (strm L)) most = (L.flatten, (strm L).length, 0) := by
 have e := stored_blocks most.toNat L [] [] ((bb (strm L)).length + 1) h0 h1 (fun y hy => nomatch hy) h3 (by simp only [List.length_nil]; omega) (by
  have := strm_length L
  rw [bb_length]; omega)
 simp only [List.nil_append, List.length_nil, Nat.mul_zero] at e
 unfold decode
 rw [if_neg (by omega), e, if_neg (by simp)]
 simp only
 congr 2
 omega
end If
end Go.Proofs.YtckbhciehmokdaaGreatDoor
namespace Go.Proofs.YtckbhciehmokdaaGreatDoor.Ls
set_option maxRecDepth 100000
set_option maxHeartbeats 8000000
open Go.RowKit
theorem cmp_any (x y p q : Nat) (w : World) (hx : w.cell? ⟨x, 0, none⟩ = some (.int .i64 (p : Int))) (hy : w.cell? ⟨y, 0, none⟩ = some (.int .i64 (q : Int))) :
  Calls Tryz.prog 189 #[.pointer (some ⟨x, 0, none⟩), .pointer (some ⟨y, 0, none⟩)] w (CmpPost w (cmpv p q)) := by
 go_enter Tryz.func189, Tryz.ntmps189
 go_wp2
 go_quiet ((go_at_call 90; exact quiet_left (compare_any p q _)))
 go_wp2
 go_ret
 exact ⟨rfl, _, rfl⟩
end Go.Proofs.YtckbhciehmokdaaGreatDoor.Ls
namespace Go.Proofs.YtckbhciehmokdaaGreatDoor.Ls
set_option maxRecDepth 100000
set_option maxHeartbeats 8000000
namespace Lm
def mrgF {α : Type} (k : α -> Nat) : Nat -> List α -> List α -> List α
 | 0, a, b => a ++ b
 | _ + 1, [], b => b
 | _ + 1, x :: a, [] => x :: a
 | n + 1, x :: a, y :: b => if k y < k x then y :: mrgF k n (x :: a) b else x :: mrgF k n a (y :: b)
def mrg {α : Type} (k : α -> Nat) (a b : List α) : List α := mrgF k (a.length + b.length) a b
theorem mrg_nil_left {α : Type} (k : α -> Nat) (b : List α) : mrg k [] b = b := by
 unfold mrg
 cases b with
 | nil => rfl
 | cons y b => rfl
theorem mrg_nil_right {α : Type} (k : α -> Nat) (a : List α) : mrg k a [] = a := by
 unfold mrg
 cases a with
 | nil => rfl
 | cons x a => rfl
theorem mrg_cons {α : Type} (k : α -> Nat) (x y : α) (a b : List α) : mrg k (x :: a) (y :: b) = if k y < k x then y :: mrg k (x :: a) b else x :: mrg k a (y :: b) := by
 unfold mrg
 rw [show (x :: a).length + (y :: b).length = ((x :: a).length + b.length) + 1 by simp; omega, mrgF]
 rw [show (x :: a).length + b.length = a.length + (y :: b).length by simp; omega]
theorem mrg_ind {α : Type} (k : α -> Nat) {M : List α -> List α -> Prop} (hl : ∀ b, M [] b) (hr : ∀ a, M a [])
  (h1 : ∀ x a y b, ¬ k y < k x -> M a (y :: b) -> M (x :: a) (y :: b)) (h2 : ∀ x a y b, k y < k x -> M (x :: a) b -> M (x :: a) (y :: b)) : ∀ a b, M a b := by
 have h : ∀ n a b, a.length + b.length <= n -> M a b := by
  intro n
  induction n with
  | zero =>
   intro a b h
   rw [List.eq_nil_of_length_eq_zero (l := a) (by omega)]; exact hl b
  | succ n ih =>
   intro a b h
   cases a with
   | nil => exact hl b
   | cons x a =>
    cases b with
    | nil => exact hr _
    | cons y b =>
     simp only [List.length_cons] at h
     by_cases hk : k y < k x
     ·exact h2 x a y b hk (ih _ _ (by simp only [List.length_cons]; omega))
     ·exact h1 x a y b hk (ih _ _ (by simp only [List.length_cons]; omega))
 exact fun a b => h _ a b (Nat.le_refl _)
theorem mrg_perm {α : Type} (k : α -> Nat) : ∀ a b : List α, (mrg k a b).Perm (a ++ b) := by
 refine mrg_ind k ?_ ?_ ?_ ?_
 ·intro b; rw [mrg_nil_left]; exact List.Perm.refl _
 ·intro a; rw [mrg_nil_right, List.append_nil]
 ·intro x a y b h ih
  rw [mrg_cons, if_neg h]
  exact ih.cons x
 ·intro x a y b h ih
  rw [mrg_cons, if_pos h]
  exact (ih.cons y).trans (List.perm_middle.symm)
theorem mrg_length {α : Type} (k : α -> Nat) (a b : List α) : (mrg k a b).length = a.length + b.length := by
 rw [(mrg_perm k a b).length_eq, List.length_append]
def Up {α : Type} (k : α -> Nat) (l : List α) : Prop := l.Pairwise fun x y => k x <= k y
theorem mrg_up {α : Type} (k : α -> Nat) : ∀ a b : List α, Up k a -> Up k b -> Up k (mrg k a b) := by
 refine mrg_ind k ?_ ?_ ?_ ?_
 ·intro b _ h; rw [mrg_nil_left]; exact h
 ·intro a h _; rw [mrg_nil_right]; exact h
 ·intro x a y b h ih ha hb
  rw [mrg_cons, if_neg h]
  have h1 := List.pairwise_cons.1 ha
  have h2 := List.pairwise_cons.1 hb
  refine List.pairwise_cons.2 ⟨fun z hz => ?_, ih h1.2 hb⟩
  rcases List.mem_append.1 ((mrg_perm k _ _).mem_iff.1 hz) with hz | hz
  ·exact h1.1 z hz
  ·rcases List.mem_cons.1 hz with rfl | hz
   ·omega
   ·have := h2.1 z hz; omega
 ·intro x a y b h ih ha hb
  rw [mrg_cons, if_pos h]
  have h1 := List.pairwise_cons.1 ha
  have h2 := List.pairwise_cons.1 hb
  refine List.pairwise_cons.2 ⟨fun z hz => ?_, ih ha h2.2⟩
  rcases List.mem_append.1 ((mrg_perm k _ _).mem_iff.1 hz) with hz | hz
  ·rcases List.mem_cons.1 hz with rfl | hz
   ·omega
   ·have := h1.1 z hz; omega
  ·exact h2.1 z hz
def na {α : Type} (k : α -> Nat) : Nat -> List α -> List α -> Nat
 | 0, _, _ => 0
 | _ + 1, [], _ => 0
 | m + 1, _ :: a, [] => min (m + 1) (a.length + 1)
 | m + 1, x :: a, y :: b => if k y < k x then na k m (x :: a) b else na k m a (y :: b) + 1
theorem na_le {α : Type} (k : α -> Nat) (m : Nat) : ∀ a b : List α, na k m a b <= m /\ na k m a b <= a.length := by
 induction m with
 | zero => intro a b; simp [na]
 | succ m ih =>
  intro a b
  cases a with
  | nil => simp [na]
  | cons x a =>
   cases b with
   | nil => simp only [na, List.length_cons]; omega
   | cons y b =>
    simp only [na]
    by_cases h : k y < k x
    ·rw [if_pos h]; have := ih (x :: a) b; omega
    ·rw [if_neg h]; have := ih a (y :: b); simp only [List.length_cons]; omega
theorem na_rest {α : Type} (k : α -> Nat) (m : Nat) : ∀ a b : List α, m <= a.length + b.length -> m - na k m a b <= b.length := by
 induction m with
 | zero => intro a b; simp
 | succ m ih =>
  intro a b h
  cases a with
  | nil => simp [na] at h ⊢; omega
  | cons x a =>
   cases b with
   | nil => simp only [na, List.length_cons, List.length_nil] at h ⊢; omega
   | cons y b =>
    simp only [na]
    simp only [List.length_cons] at h
    by_cases hk : k y < k x
    ·rw [if_pos hk]; have := ih (x :: a) b (by simp only [List.length_cons]; omega); have := (na_le k m (x :: a) b).1; simp only [List.length_cons]; omega
    ·rw [if_neg hk]; have := ih a (y :: b) (by simp only [List.length_cons]; omega); simp only [List.length_cons] at this ⊢; omega
theorem mrg_take {α : Type} (k : α -> Nat) (m : Nat) : ∀ a b : List α, m <= a.length + b.length -> ((mrg k a b).take m).Perm (a.take (na k m a b) ++ b.take (m - na k m a b)) := by
 induction m with
 | zero => intro a b _; simp [na]
 | succ m ih =>
  intro a b h
  cases a with
  | nil => rw [mrg_nil_left]; simp [na]
  | cons x a =>
   cases b with
   | nil =>
    rw [mrg_nil_right]
    simp only [na, List.take_nil, List.append_nil]
    have e : (x :: a).take (m + 1) = (x :: a).take (min (m + 1) (a.length + 1)) := by
     rw [show a.length + 1 = (x :: a).length from rfl, <- List.take_take, List.take_of_length_le (l := x :: a) (i := (x :: a).length) (Nat.le_refl _)]
    rw [e]
   | cons y b =>
    simp only [List.length_cons] at h
    simp only [na]
    rw [mrg_cons]
    by_cases hk : k y < k x
    ·rw [if_pos hk, if_pos hk, List.take_succ_cons]
     have h1 := ih (x :: a) b (by simp only [List.length_cons]; omega)
     have h2 := (na_le k m (x :: a) b).1
     rw [show m + 1 - na k m (x :: a) b = (m - na k m (x :: a) b) + 1 by omega, List.take_succ_cons]
     exact (h1.cons y).trans (List.perm_middle.symm)
    ·rw [if_neg hk, if_neg hk, List.take_succ_cons, List.take_succ_cons]
     have h1 := ih a (y :: b) (by simp only [List.length_cons]; omega)
     rw [show m + 1 - (na k m a (y :: b) + 1) = m - na k m a (y :: b) by omega]
     exact h1.cons x
theorem gap {α : Type} (k : α -> Nat) (m : Nat) : ∀ a b : List α, Up k a -> ∀ y z, 0 < m - na k m a b -> b[m - na k m a b - 1]? = some y -> a[na k m a b]? = some z -> k y < k z := by
 induction m with
 | zero => intro a b _ y z h; simp at h
 | succ m ih =>
  intro a b hu y z h hy hz
  cases a with
  | nil => simp at hz
  | cons x a =>
   cases b with
   | nil => simp at hy
   | cons u b =>
    simp only [na] at h hy hz
    by_cases hk : k u < k x
    ·rw [if_pos hk] at h hy hz
     by_cases h0 : 0 < m - na k m (x :: a) b
     ·rw [show m + 1 - na k m (x :: a) b - 1 = (m - na k m (x :: a) b - 1) + 1 by omega, List.getElem?_cons_succ] at hy
      exact ih (x :: a) b hu y z h0 hy hz
     ·have h1 := (na_le k m (x :: a) b).1
      rw [show m + 1 - na k m (x :: a) b - 1 = 0 by omega, List.getElem?_cons_zero] at hy
      cases hy
      have hm : z ∈ x :: a := List.mem_of_getElem? hz
      have hp := List.pairwise_cons.1 hu
      rcases List.mem_cons.1 hm with rfl | hm
      ·exact hk
      ·have := hp.1 z hm; omega
    ·rw [if_neg hk] at h hy hz
     rw [List.getElem?_cons_succ] at hz
     rw [show m + 1 - (na k m a (u :: b) + 1) = m - na k m a (u :: b) by omega] at h hy
     exact ih a (u :: b) (List.pairwise_cons.1 hu).2 y z h hy hz
def prs {α : Type} (ad : α -> α -> α) : List α -> List α
 | x :: y :: r => ad x y :: prs ad r
 | _ => []
theorem prs_length {α : Type} (ad : α -> α -> α) : ∀ l : List α, (prs ad l).length = l.length / 2
 | [] => by simp [prs]
 | [_] => by simp [prs]
 | x :: y :: r => by simp only [prs, List.length_cons, prs_length ad r]; omega
theorem prs_take {α : Type} (ad : α -> α -> α) : ∀ (l : List α) (p : Nat), (prs ad l).take p = prs ad (l.take (2 * p))
 | [], p => by simp [prs]
 | [x], p => by
  cases p with
  | zero => simp [prs]
  | succ p => rw [show 2 * (p + 1) = (2 * p + 1) + 1 by omega, List.take_succ_cons, List.take_nil]; simp [prs]
 | x :: y :: r, p => by
  cases p with
  | zero => simp [prs]
  | succ p => rw [show 2 * (p + 1) = 2 * p + 1 + 1 by omega, List.take_succ_cons, List.take_succ_cons]; simp only [prs, List.take_succ_cons, prs_take ad r p]
theorem prs_get {α : Type} (ad : α -> α -> α) : ∀ (l : List α) (q : Nat) (z : α), (prs ad l)[q]? = some z -> ∃ x y, l[2 * q]? = some x /\ l[2 * q + 1]? = some y /\ z = ad x y
 | [], q, z, h => by simp [prs] at h
 | [x], q, z, h => by simp [prs] at h
 | x :: y :: r, q, z, h => by
  cases q with
  | zero => simp [prs] at h; exact ⟨x, y, rfl, rfl, h.symm⟩
  | succ q =>
   simp only [prs, List.getElem?_cons_succ] at h
   obtain ⟨u, v, h1, h2, h3⟩ := prs_get ad r q z h
   refine ⟨u, v, ?_, ?_, h3⟩
   ·rw [show 2 * (q + 1) = 2 * q + 1 + 1 by omega]; exact h1
   ·rw [show 2 * (q + 1) + 1 = 2 * q + 1 + 1 + 1 by omega]; exact h2
theorem prs_snoc {α : Type} (ad : α -> α -> α) (x y : α) : ∀ (l : List α), l.length % 2 = 0 -> prs ad (l ++ [x, y]) = prs ad l ++ [ad x y]
 | [], _ => rfl
 | [_], h => by simp at h
 | u :: v :: r, h => by
  simp only [List.cons_append, prs]
  rw [prs_snoc ad x y r (by simp only [List.length_cons] at h; omega)]
def sm {α : Type} (c : α -> Nat) (l : List α) : Nat := (l.map c).sum
theorem sm_nil {α : Type} (c : α -> Nat) : sm c [] = 0 := rfl
theorem sm_cons {α : Type} (c : α -> Nat) (x : α) (l : List α) : sm c (x :: l) = c x + sm c l := by simp [sm]
theorem sm_append {α : Type} (c : α -> Nat) (a b : List α) : sm c (a ++ b) = sm c a + sm c b := by simp [sm]
theorem sm_perm {α : Type} (c : α -> Nat) {a b : List α} (h : a.Perm b) : sm c a = sm c b := (h.map c).sum_nat
theorem sm_prs {α : Type} (ad : α -> α -> α) (c : α -> Nat) (hc : ∀ x y, c (ad x y) = c x + c y) : ∀ l : List α, l.length % 2 = 0 -> sm c (prs ad l) = sm c l
 | [], _ => rfl
 | [_], h => by simp at h
 | x :: y :: r, h => by
  simp only [prs, sm_cons, hc]
  rw [sm_prs ad c hc r (by simp only [List.length_cons] at h; omega)]; omega
theorem prs_up {α : Type} (k : α -> Nat) (ad : α -> α -> α) (hk : ∀ x y, k (ad x y) = k x + k y) : ∀ l : List α, Up k l -> Up k (prs ad l)
 | [], _ => List.Pairwise.nil
 | [_], _ => List.Pairwise.nil
 | x :: y :: r, h => by
  have h1 := List.pairwise_cons.1 h
  have h2 := List.pairwise_cons.1 h1.2
  refine List.pairwise_cons.2 ⟨fun z hz => ?_, prs_up k ad hk r h2.2⟩
  obtain ⟨q, hq⟩ := List.getElem?_of_mem hz
  obtain ⟨u, v, e1, e2, rfl⟩ := prs_get ad r q z hq
  rw [hk, hk]
  have g1 := h1.1 u (List.mem_cons_of_mem _ (List.mem_of_getElem? e1))
  have g2 := h2.1 v (List.mem_of_getElem? e2)
  omega
def lvl {α : Type} (k : α -> Nat) (ad : α -> α -> α) (S : List α) : Nat -> List α
 | 0 => S
 | j + 1 => mrg k S (prs ad (lvl k ad S j))
theorem lvl_up {α : Type} (k : α -> Nat) (ad : α -> α -> α) (hk : ∀ x y, k (ad x y) = k x + k y) (S : List α) (h : Up k S) (j : Nat) : Up k (lvl k ad S j) := by
 induction j with
 | zero => exact h
 | succ j ih => exact mrg_up k _ _ h (prs_up k ad hk _ ih)
theorem lvl_length {α : Type} (k : α -> Nat) (ad : α -> α -> α) (S : List α) (j : Nat) : (lvl k ad S (j + 1)).length = S.length + (lvl k ad S j).length / 2 := by
 simp only [lvl, mrg_length, prs_length]
theorem lvl_le {α : Type} (k : α -> Nat) (ad : α -> α -> α) (S : List α) (j : Nat) : (lvl k ad S j).length <= 2 * S.length := by
 induction j with
 | zero => simp only [lvl]; omega
 | succ j ih => rw [lvl_length]; omega
theorem lvl_long {α : Type} (k : α -> Nat) (ad : α -> α -> α) (S : List α) (hS : 1 <= S.length) (j : Nat) : 2 * S.length <= (lvl k ad S j).length + (S.length - 1) / 2 ^ j + 1 := by
 induction j with
 | zero => simp only [lvl, Nat.pow_zero, Nat.div_one]; omega
 | succ j ih =>
  rw [lvl_length, Nat.pow_succ, <- Nat.div_div_eq_div_mul]
  generalize (S.length - 1) / 2 ^ j = d at ih ⊢
  omega
theorem lvl_enough {α : Type} (k : α -> Nat) (ad : α -> α -> α) (S : List α) (hS : 2 <= S.length) (j : Nat) (h : S.length <= 2 ^ (j + 1)) : 2 * S.length - 2 <= (lvl k ad S j).length := by
 have h1 := lvl_long k ad S (by omega) j
 have h2 : (S.length - 1) / 2 ^ j <= 1 := by
  have : (S.length - 1) / 2 ^ j < 2 := (Nat.div_lt_iff_lt_mul (Nat.two_pow_pos j)).2 (by rw [Nat.pow_succ] at h; omega)
  omega
 omega
def sel {α : Type} (k : α -> Nat) (ad : α -> α -> α) (S : List α) : Nat -> Nat -> List Nat
 | 0, m => [m]
 | j + 1, m => na k m S (prs ad (lvl k ad S j)) :: sel k ad S j (2 * (m - na k m S (prs ad (lvl k ad S j))))
theorem sel_length {α : Type} (k : α -> Nat) (ad : α -> α -> α) (S : List α) (j : Nat) : ∀ m, (sel k ad S j m).length = j + 1 := by
 induction j with
 | zero => intro m; rfl
 | succ j ih => intro m; simp only [sel, List.length_cons, ih]
theorem half_le {α : Type} (k : α -> Nat) (ad : α -> α -> α) (S : List α) (j m : Nat) (h : m <= (lvl k ad S (j + 1)).length) : 2 * (m - na k m S (prs ad (lvl k ad S j))) <= (lvl k ad S j).length := by
 have h1 := na_rest k m S (prs ad (lvl k ad S j)) (by rw [lvl_length] at h; rw [prs_length]; exact h)
 rw [prs_length] at h1
 omega
theorem sel_sum {α : Type} (k : α -> Nat) (ad : α -> α -> α) (S : List α) (c : α -> Nat) (hc : ∀ x y, c (ad x y) = c x + c y) (j : Nat) :
  ∀ m, m <= (lvl k ad S j).length -> sm c ((lvl k ad S j).take m) = sm (fun s => sm c (S.take s)) (sel k ad S j m) := by
 induction j with
 | zero => intro m _; simp [sel, sm, lvl]
 | succ j ih =>
  intro m h
  have h1 := half_le k ad S j m h
  have h2 : m <= S.length + (prs ad (lvl k ad S j)).length := by rw [lvl_length] at h; rw [prs_length]; exact h
  rw [show lvl k ad S (j + 1) = mrg k S (prs ad (lvl k ad S j)) from rfl, sm_perm c (mrg_take k m _ _ h2), sm_append, prs_take, sm_prs ad c hc _ (by rw [List.length_take]; omega), ih _ h1, sel, sm_cons]
def wsum : List Nat -> Nat
 | [] => 0
 | s :: r => s * 2 ^ r.length + wsum r
theorem sel_wsum {α : Type} (k : α -> Nat) (ad : α -> α -> α) (S : List α) (j : Nat) : ∀ m, wsum (sel k ad S j m) = m * 2 ^ j := by
 induction j with
 | zero => intro m; simp [sel, wsum]
 | succ j ih =>
  intro m
  have h1 := (na_le k m S (prs ad (lvl k ad S j))).1
  simp only [sel, wsum, ih, sel_length]
  generalize na k m S (prs ad (lvl k ad S j)) = s at h1
  obtain ⟨p, rfl⟩ : ∃ p, m = s + p := ⟨m - s, by omega⟩
  rw [show s + p - s = p by omega, Nat.add_mul, Nat.pow_succ, Nat.mul_comm 2 p, Nat.mul_assoc p 2, Nat.mul_comm 2 (2 ^ j)]
theorem sel_head {α : Type} (k : α -> Nat) (ad : α -> α -> α) (S : List α) (j m : Nat) (h : m <= (lvl k ad S j).length) :
  ∃ s r, sel k ad S j m = s :: r /\ s <= S.length /\ s <= m /\ ∀ i z, i < s -> S[i]? = some z -> z ∈ (lvl k ad S j).take m := by
 cases j with
 | zero =>
  refine ⟨m, [], rfl, h, Nat.le_refl _, fun i z hi hz => ?_⟩
  have : (S.take m)[i]? = some z := by rw [List.getElem?_take_of_lt hi]; exact hz
  exact List.mem_of_getElem? this
 | succ j =>
  have h2 : m <= S.length + (prs ad (lvl k ad S j)).length := by rw [lvl_length] at h; rw [prs_length]; exact h
  refine ⟨_, _, rfl, (na_le k m _ _).2, (na_le k m _ _).1, fun i z hi hz => ?_⟩
  refine (mrg_take k m _ _ h2).mem_iff.2 (List.mem_append_left _ ?_)
  have : (S.take (na k m S (prs ad (lvl k ad S j))))[i]? = some z := by rw [List.getElem?_take_of_lt hi]; exact hz
  exact List.mem_of_getElem? this
theorem up_last {α : Type} (k : α -> Nat) (l : List α) (h : Up k l) (m : Nat) (z y : α) (hz : z ∈ l.take m) (hm : m <= l.length) (hy : l[m - 1]? = some y) : k z <= k y := by
 obtain ⟨i, hi⟩ := List.getElem?_of_mem hz
 have him : i < m := by
  have := (List.getElem?_eq_some_iff.1 hi).1
  rw [List.length_take] at this; omega
 rw [List.getElem?_take_of_lt him] at hi
 by_cases e : i = m - 1
 ·rw [e, hy] at hi; cases hi; exact Nat.le_refl _
 ·have h1 := List.getElem?_eq_some_iff.1 hi
  have h2 := List.getElem?_eq_some_iff.1 hy
  obtain ⟨g1, rfl⟩ := h1
  obtain ⟨g2, rfl⟩ := h2
  exact List.pairwise_iff_getElem.1 h i (m - 1) g1 g2 (by omega)
theorem pair_above {α : Type} (k : α -> Nat) (ad : α -> α -> α) (hk : ∀ x y, k (ad x y) = k x + k y) (l : List α) (h : Up k l) (p : Nat) (hp : 0 < p) (hl : 2 * p <= l.length) (z y : α) (hz : z ∈ l.take (2 * p)) (hy : (prs ad l)[p - 1]? = some y) : k z <= k y := by
 obtain ⟨u, v, _, e2, rfl⟩ := prs_get ad l (p - 1) y hy
 have := up_last k l h (2 * p) z v hz hl (by rw [show 2 * p - 1 = 2 * (p - 1) + 1 by omega]; exact e2)
 rw [hk]; omega
theorem sel_down {α : Type} (k : α -> Nat) (ad : α -> α -> α) (hk : ∀ x y, k (ad x y) = k x + k y) (S : List α) (hS : Up k S) (j : Nat) :
  ∀ m, m <= (lvl k ad S j).length -> (sel k ad S j m).Pairwise (fun x y => y <= x) := by
 induction j with
 | zero => intro m _; exact List.pairwise_singleton _ _
 | succ j ih =>
  intro m h
  have h1 := half_le k ad S j m h
  have hr := ih _ h1
  obtain ⟨s, r, e, f1, f2, f3⟩ := sel_head k ad S j _ h1
  have hd : s <= na k m S (prs ad (lvl k ad S j)) := by
   refine Nat.le_of_not_lt fun hlt => ?_
   have h0 : 0 < m - na k m S (prs ad (lvl k ad S j)) := by omega
   have hin : na k m S (prs ad (lvl k ad S j)) < S.length := by omega
   have hpl : m - na k m S (prs ad (lvl k ad S j)) - 1 < (prs ad (lvl k ad S j)).length := by rw [prs_length]; omega
   have hz := List.getElem?_eq_getElem hin
   have hy := List.getElem?_eq_getElem hpl
   have g1 := gap k m S _ hS _ _ h0 hy hz
   have g2 := pair_above k ad hk _ (lvl_up k ad hk S hS j) _ h0 h1 _ _ (f3 _ _ hlt hz) hy
   omega
  simp only [sel]
  rw [e] at hr ⊢
  refine List.pairwise_cons.2 ⟨fun z hz => ?_, hr⟩
  rcases List.mem_cons.1 hz with rfl | hz
  ·exact hd
  ·have := (List.pairwise_cons.1 hr).1 z hz; omega
theorem sel_top {α : Type} (k : α -> Nat) (ad : α -> α -> α) (hk : ∀ x y, k (ad x y) = k x + k y) (S : List α) (hS : Up k S) (hn : 2 <= S.length) (j : Nat) :
  2 * S.length - 2 <= (lvl k ad S j).length -> ∃ r, sel k ad S j (2 * S.length - 2) = S.length :: r := by
 induction j with
 | zero =>
  intro h
  simp only [lvl] at h
  exact ⟨[], by simp only [sel]; congr 1; omega⟩
 | succ j ih =>
  intro h
  have h2 : 2 * S.length - 2 <= S.length + (prs ad (lvl k ad S j)).length := by rw [lvl_length] at h; rw [prs_length]; exact h
  have h3 := na_rest k (2 * S.length - 2) S _ h2
  have h4 := (na_le k (2 * S.length - 2) S (prs ad (lvl k ad S j))).2
  have hh := half_le k ad S j _ h
  refine ⟨sel k ad S j (2 * (2 * S.length - 2 - na k (2 * S.length - 2) S (prs ad (lvl k ad S j)))), ?_⟩
  ·simp only [sel]
   congr 1
   generalize hs : na k (2 * S.length - 2) S (prs ad (lvl k ad S j)) = s at *
   refine Nat.le_antisymm h4 (Nat.le_of_not_lt fun hlt => ?_)
   have hll : 2 * S.length - 2 <= (lvl k ad S j).length := by rw [prs_length] at h3; omega
   obtain ⟨r, hr⟩ := ih hll
   obtain ⟨s', r', e, f1, f2, f3⟩ := sel_head k ad S j _ hll
   rw [hr] at e
   injection e with e1 e2
   subst e1
   have hz : S[S.length - 1]? = some (S[S.length - 1]'(by omega)) := List.getElem?_eq_getElem (by omega)
   have hmem := f3 _ _ (by omega) hz
   have h0 : 0 < 2 * S.length - 2 - s := by omega
   have hpl : 2 * S.length - 2 - s - 1 < (prs ad (lvl k ad S j)).length := by omega
   have hy := List.getElem?_eq_getElem hpl
   have hzs : S[s]? = some (S[s]'hlt) := List.getElem?_eq_getElem hlt
   have g1 := gap k (2 * S.length - 2) S _ hS _ _ (by rw [hs]; exact h0) (by rw [hs]; exact hy) (by rw [hs]; exact hzs)
   have hmem2 : S[S.length - 1]'(by omega) ∈ (lvl k ad S j).take (2 * (2 * S.length - 2 - s)) := by
    obtain ⟨i, hi⟩ := List.getElem?_of_mem hmem
    have him : i < 2 * S.length - 2 := by
     have := (List.getElem?_eq_some_iff.1 hi).1
     rw [List.length_take] at this; omega
    rw [List.getElem?_take_of_lt him] at hi
    refine List.mem_of_getElem? (i := i) ?_
    rw [List.getElem?_take_of_lt (by omega)]; exact hi
   have g2 := pair_above k ad hk _ (lvl_up k ad hk S hS j) _ h0 hh _ _ hmem2 hy
   have g3 : k (S[s]'hlt) <= k (S[S.length - 1]'(by omega)) := by
    by_cases e : s = S.length - 1
    ·simp [e]
    ·exact List.pairwise_iff_getElem.1 hS s (S.length - 1) hlt (by omega) (by omega)
   omega
end Lm
end Go.Proofs.YtckbhciehmokdaaGreatDoor.Ls
namespace Go.Proofs.YtckbhciehmokdaaGreatDoor.Ls
set_option maxRecDepth 100000
set_option maxHeartbeats 8000000
namespace Lm
def ins {α : Type} (k : α -> Nat) (x : α) : List α -> List α
 | [] => [x]
 | y :: r => if k x < k y then x :: y :: r else y :: ins k x r
def isrt {α : Type} (k : α -> Nat) (l : List α) : List α := l.foldl (fun s x => ins k x s) []
theorem ins_perm {α : Type} (k : α -> Nat) (x : α) : ∀ l : List α, (ins k x l).Perm (x :: l)
 | [] => List.Perm.refl _
 | y :: r => by
  unfold ins
  by_cases h : k x < k y
  ·rw [if_pos h]
  ·rw [if_neg h]; exact ((ins_perm k x r).cons y).trans (List.Perm.swap x y r)
theorem ins_up {α : Type} (k : α -> Nat) (x : α) : ∀ l : List α, Up k l -> Up k (ins k x l)
 | [], _ => List.pairwise_singleton _ _
 | y :: r, h => by
  have h1 := List.pairwise_cons.1 h
  unfold ins
  by_cases hk : k x < k y
  ·rw [if_pos hk]
   refine List.pairwise_cons.2 ⟨fun z hz => ?_, h⟩
   rcases List.mem_cons.1 hz with rfl | hz
   ·omega
   ·have := h1.1 z hz; omega
  ·rw [if_neg hk]
   refine List.pairwise_cons.2 ⟨fun z hz => ?_, ins_up k x r h1.2⟩
   rcases List.mem_cons.1 ((ins_perm k x r).mem_iff.1 hz) with rfl | hz
   ·omega
   ·exact h1.1 z hz
theorem fold_perm {α : Type} (k : α -> Nat) : ∀ (l s : List α), (l.foldl (fun s x => ins k x s) s).Perm (l ++ s)
 | [], s => List.Perm.refl _
 | x :: l, s => by
  rw [List.foldl_cons]
  exact (fold_perm k l (ins k x s)).trans (((ins_perm k x s).append_left l).trans List.perm_middle)
theorem fold_up {α : Type} (k : α -> Nat) : ∀ (l s : List α), Up k s -> Up k (l.foldl (fun s x => ins k x s) s)
 | [], _, h => h
 | x :: l, s, h => by rw [List.foldl_cons]; exact fold_up k l _ (ins_up k x s h)
theorem isrt_perm {α : Type} (k : α -> Nat) (l : List α) : (isrt k l).Perm l := by have := fold_perm k l []; rwa [List.append_nil] at this
theorem isrt_up {α : Type} (k : α -> Nat) (l : List α) : Up k (isrt k l) := fold_up k l [] List.Pairwise.nil
theorem isrt_length {α : Type} (k : α -> Nat) (l : List α) : (isrt k l).length = l.length := (isrt_perm k l).length_eq
section Map
variable {α β : Type} (k : α -> Nat) (k' : β -> Nat) (f : α -> β) (hf : ∀ x y, k' (f x) < k' (f y) ↔ k x < k y)
include hf
variable (ad : α -> α -> α) (ad' : β -> β -> β) (ha : ∀ x y, f (ad x y) = ad' (f x) (f y))
include ha
end Map
theorem sm_map {α β : Type} (c : β -> Nat) (f : α -> β) (l : List α) : sm c (l.map f) = sm (fun x => c (f x)) l := by simp [sm, Function.comp_def]
theorem sm_congr {α : Type} {c d : α -> Nat} : ∀ {l : List α}, (∀ x ∈ l, c x = d x) -> sm c l = sm d l
 | [], _ => rfl
 | x :: l, h => by rw [sm_cons, sm_cons, h x (by simp), sm_congr fun y hy => h y (by simp [hy])]
theorem sm_mul {α : Type} (c : α -> Nat) (m : Nat) (l : List α) : sm (fun x => m * c x) l = m * sm c l := by
 induction l with
 | nil => rfl
 | cons x l ih => rw [sm_cons, sm_cons, ih, Nat.mul_add]
theorem sm_le {α : Type} {c d : α -> Nat} : ∀ {l : List α}, (∀ x ∈ l, c x <= d x) -> sm c l <= sm d l
 | [], _ => Nat.le_refl _
 | x :: l, h => by
  have h1 := h x (by simp)
  have h2 : sm c l <= sm d l := sm_le fun y hy => h y (by simp [hy])
  rw [sm_cons, sm_cons]; omega
theorem sm_take_mono {α : Type} (c : α -> Nat) : ∀ (l : List α) (s t : Nat), s <= t -> sm c (l.take s) <= sm c (l.take t)
 | [], s, t, _ => by simp
 | x :: l, s, t, h => by
  cases s with
  | zero => simp [sm_nil]
  | succ s =>
   cases t with
   | zero => omega
   | succ t =>
    have := sm_take_mono c l s t (by omega)
    rw [List.take_succ_cons, List.take_succ_cons, sm_cons, sm_cons]; omega
theorem shift {α : Type} (k : α -> Nat) (x : α) : ∀ (S : List α) (y : α) (t : Nat), Up k (y :: S) -> k x <= k y -> t <= S.length -> k x + sm k ((y :: S).take t) <= sm k ((y :: S).take (t + 1))
 | S, y, 0, _, hx, _ => by simp [sm, hx]
 | [], y, t + 1, _, _, ht => by simp at ht
 | z :: S, y, t + 1, hu, hx, ht => by
  have h1 := List.pairwise_cons.1 hu
  have := shift k x S z t h1.2 (Nat.le_trans hx (h1.1 z (by simp))) (by simpa using ht)
  rw [List.take_succ_cons (i := t), List.take_succ_cons (i := t + 1), sm_cons, sm_cons]; omega
theorem mrg_least {α : Type} (k : α -> Nat) : ∀ a b : List α, Up k a -> Up k b -> ∀ i j, i <= a.length -> j <= b.length -> sm k ((mrg k a b).take (i + j)) <= sm k (a.take i) + sm k (b.take j) := by
 refine mrg_ind k ?_ ?_ ?_ ?_
 ·intro b _ _ i j hi _
  have : i = 0 := by simpa using hi
  subst this
  rw [mrg_nil_left, Nat.zero_add]; simp [sm_nil]
 ·intro a _ _ i j _ hj
  have : j = 0 := by simpa using hj
  subst this
  rw [mrg_nil_right, Nat.add_zero]; simp [sm_nil]
 ·intro x a y b h ih ha hb i j hi hj
  have h1 := List.pairwise_cons.1 ha
  rw [mrg_cons, if_neg h]
  cases i with
  | succ i =>
   have := ih h1.2 hb i j (by simpa using hi) hj
   rw [show i + 1 + j = (i + j) + 1 by omega, List.take_succ_cons, List.take_succ_cons, sm_cons, sm_cons]; omega
  | zero =>
   cases j with
   | zero => simp [sm_nil]
   | succ j =>
    have g1 := ih h1.2 hb 0 j (Nat.zero_le _) (by omega)
    have g2 := shift k x b y j hb (by omega) (by simpa using hj)
    rw [Nat.zero_add, List.take_zero, sm_nil] at g1
    rw [Nat.zero_add, List.take_succ_cons, sm_cons, List.take_zero, sm_nil]; omega
 ·intro x a y b h ih ha hb i j hi hj
  have h1 := List.pairwise_cons.1 hb
  rw [mrg_cons, if_pos h]
  cases j with
  | succ j =>
   have := ih ha h1.2 i j hi (by simpa using hj)
   rw [show i + (j + 1) = (i + j) + 1 by omega, List.take_succ_cons, List.take_succ_cons, sm_cons, sm_cons]; omega
  | zero =>
   cases i with
   | zero => simp [sm_nil]
   | succ i =>
    have g1 := ih ha h1.2 i 0 (by omega) (Nat.zero_le _)
    have g2 := shift k y a x i ha (by omega) (by simpa using hi)
    rw [Nat.add_zero, List.take_zero, sm_nil] at g1
    rw [Nat.add_zero, List.take_succ_cons, sm_cons, List.take_zero, sm_nil]; omega
def sumTo (f : Nat -> Nat) : Nat -> Nat
 | 0 => 0
 | n + 1 => sumTo f n + f n
theorem sumTo_congr {f g : Nat -> Nat} {n : Nat} (h : ∀ i, i < n -> f i = g i) : sumTo f n = sumTo g n := by
 induction n with
 | zero => rfl
 | succ n ih => simp only [sumTo]; rw [ih fun i hi => h i (by omega), h n (by omega)]
theorem sumTo_le {f g : Nat -> Nat} {n : Nat} (h : ∀ i, i < n -> f i <= g i) : sumTo f n <= sumTo g n := by
 induction n with
 | zero => exact Nat.le_refl _
 | succ n ih => have h1 := ih fun i hi => h i (by omega); have h2 := h n (by omega); simp only [sumTo]; omega
theorem sumTo_add (f g : Nat -> Nat) (n : Nat) : sumTo (fun i => f i + g i) n = sumTo f n + sumTo g n := by
 induction n with
 | zero => rfl
 | succ n ih => simp only [sumTo, ih]; omega
theorem sumTo_const (c n : Nat) : sumTo (fun _ => c) n = n * c := by
 induction n with
 | zero => simp [sumTo]
 | succ n ih => simp only [sumTo, ih, Nat.succ_mul]
def yy (t : Nat -> Nat) : Nat -> Nat
 | 0 => t 0
 | j + 1 => t (j + 1) + yy t j / 2
theorem opt {α : Type} (k : α -> Nat) (ad : α -> α -> α) (hk : ∀ x y, k (ad x y) = k x + k y) (S : List α) (hS : Up k S) (t : Nat -> Nat) (ht : ∀ j, t j <= S.length) (j : Nat) :
  yy t j <= (lvl k ad S j).length /\ sm k ((lvl k ad S j).take (yy t j)) <= sumTo (fun i => sm k (S.take (t i))) (j + 1) := by
 induction j with
 | zero => exact ⟨ht 0, by simp [sumTo, lvl, yy]⟩
 | succ j ih =>
  refine ⟨by rw [lvl_length]; have := ht (j + 1); simp only [yy]; omega, ?_⟩
  have h1 := mrg_least k S (prs ad (lvl k ad S j)) hS (prs_up k ad hk _ (lvl_up k ad hk S hS j)) (t (j + 1)) (yy t j / 2) (ht _) (by rw [prs_length]; omega)
  rw [prs_take, sm_prs ad k hk _ (by rw [List.length_take]; omega)] at h1
  have h2 := sm_take_mono k (lvl k ad S j) (2 * (yy t j / 2)) (yy t j) (by omega)
  rw [sumTo]
  simp only [lvl, yy]
  omega
theorem yy_pow (t : Nat -> Nat) (j : Nat) : sumTo (fun i => t i * 2 ^ i) (j + 1) + 1 <= yy t j * 2 ^ j + 2 ^ j := by
 induction j with
 | zero => simp [sumTo, yy]
 | succ j ih =>
  rw [sumTo]
  simp only [yy]
  have h1 : yy t j * 2 ^ j <= (yy t j / 2) * 2 ^ (j + 1) + 2 ^ j := by
   have : yy t j <= yy t j / 2 * 2 + 1 := by omega
   have := Nat.mul_le_mul_right (2 ^ j) this
   rw [Nat.add_mul, Nat.one_mul, Nat.mul_assoc, Nat.mul_comm 2 (2 ^ j), <- Nat.pow_succ] at this
   exact this
  have h2 : 2 ^ (j + 1) = 2 ^ j + 2 ^ j := by rw [Nat.pow_succ]; omega
  rw [Nat.add_mul]
  generalize yy t j / 2 * 2 ^ (j + 1) = u at *
  generalize t (j + 1) * 2 ^ (j + 1) = v at *
  generalize yy t j * 2 ^ j = x at *
  omega
theorem ins_take {α : Type} (k : α -> Nat) (x : α) : ∀ (S : List α) (c : Nat), sm k ((ins k x S).take (c + 1)) <= k x + sm k (S.take c)
 | [], c => by simp [ins, sm]
 | y :: S, c => by
  unfold ins
  by_cases h : k x < k y
  ·rw [if_pos h, List.take_succ_cons, sm_cons]; exact Nat.le_refl _
  ·rw [if_neg h]
   cases c with
   | zero => simp [sm]; omega
   | succ c =>
    have := ins_take k x S c
    rw [List.take_succ_cons, List.take_succ_cons, sm_cons, sm_cons]; omega
theorem ins_take_same {α : Type} (k : α -> Nat) (x : α) : ∀ (S : List α) (c : Nat), Up k S -> c <= S.length -> sm k ((ins k x S).take c) <= sm k (S.take c)
 | [], c, _, h => by
  have : c = 0 := by simpa using h
  subst this
  simp [sm]
 | y :: S, c, hu, hc => by
  unfold ins
  by_cases h : k x < k y
  ·rw [if_pos h]
   cases c with
   | zero => simp [sm]
   | succ c =>
    rw [List.take_succ_cons, sm_cons]
    exact shift k x S y c hu (by omega) (by simpa using hc)
  ·rw [if_neg h]
   cases c with
   | zero => simp [sm]
   | succ c =>
    have := ins_take_same k x S c (List.pairwise_cons.1 hu).2 (by simpa using hc)
    rw [List.take_succ_cons, List.take_succ_cons, sm_cons, sm_cons]; omega
def cn (q : Nat -> Bool) : List (Nat × Nat) -> Nat
 | [] => 0
 | p :: P => (if q p.2 then 1 else 0) + cn q P
def co (q : Nat -> Bool) : List (Nat × Nat) -> Nat
 | [] => 0
 | p :: P => (if q p.2 then p.1 else 0) + co q P
theorem cn_le (q : Nat -> Bool) : ∀ P, cn q P <= P.length
 | [] => Nat.le_refl _
 | p :: P => by have := cn_le q P; simp only [cn, List.length_cons]; split <;> omega
theorem least_fold (q : Nat -> Bool) : ∀ (P : List (Nat × Nat)) (S : List Nat) (c T : Nat), Up (fun x => x) S -> c <= S.length -> sm (fun x => x) (S.take c) <= T ->
  sm (fun x => x) (((P.map Prod.fst).foldl (fun s x => ins (fun x => x) x s) S).take (c + cn q P)) <= T + co q P
 | [], S, c, T, _, _, h => by simpa [cn, co] using h
 | p :: P, S, c, T, hu, hc, h => by
  rw [List.map_cons, List.foldl_cons]
  have hu2 := ins_up (fun x => x) p.1 S hu
  have hl : (ins (fun x => x) p.1 S).length = S.length + 1 := by rw [(ins_perm _ p.1 S).length_eq]; rfl
  simp only [cn, co]
  by_cases hq : q p.2
  ·rw [if_pos hq, if_pos hq]
   have := least_fold q P _ (c + 1) (T + p.1) hu2 (by omega) (by have := ins_take (fun x => x) p.1 S c; omega)
   rw [show c + (1 + cn q P) = c + 1 + cn q P by omega, show T + (p.1 + co q P) = T + p.1 + co q P by omega]
   exact this
  ·rw [if_neg hq, if_neg hq]
   have := least_fold q P _ c T hu2 (by omega) (by have := ins_take_same (fun x => x) p.1 S c hu hc; omega)
   rw [Nat.zero_add, Nat.zero_add]
   exact this
theorem least_of (q : Nat -> Bool) (P : List (Nat × Nat)) : sm (fun x => x) ((isrt (fun x => x) (P.map Prod.fst)).take (cn q P)) <= co q P := by
 have := least_fold q P [] 0 0 List.Pairwise.nil (Nat.zero_le _) (by simp [sm])
 rwa [Nat.zero_add, Nat.zero_add] at this
theorem co_levels (M : Nat) : ∀ P : List (Nat × Nat), (∀ p ∈ P, p.2 <= M) -> sumTo (fun j => co (fun l => decide (M - j <= l)) P) M = sm (fun p => p.1 * p.2) P
 | [], _ => by simp [co, sm, sumTo_const]
 | p :: P, h => by
  have h1 := co_levels M P fun x hx => h x (by simp [hx])
  have h2 := h p (by simp)
  simp only [co]
  rw [sumTo_add, h1, sm_cons]
  congr 1
  have : ∀ t, t <= M -> sumTo (fun j => if decide (M - j <= p.2) = true then p.1 else 0) t = p.1 * (t - (M - p.2)) := by
   intro t
   induction t with
   | zero => intro _; simp [sumTo]
   | succ t ih =>
    intro ht
    simp only [sumTo]
    rw [ih (by omega)]
    by_cases hh : M - t <= p.2
    ·rw [if_pos (by simpa using hh), show t + 1 - (M - p.2) = (t - (M - p.2)) + 1 by omega, Nat.mul_succ]
    ·rw [if_neg (by simpa using hh), show t + 1 - (M - p.2) = 0 by omega, show t - (M - p.2) = 0 by omega, Nat.add_zero]
  rw [this M (Nat.le_refl _), show M - (M - p.2) = p.2 by omega]
theorem cn_levels (M : Nat) : ∀ P : List (Nat × Nat), (∀ p ∈ P, p.2 <= M) -> sumTo (fun j => cn (fun l => decide (M - j <= l)) P * 2 ^ j) M + sm (fun p => 2 ^ (M - p.2)) P = P.length * 2 ^ M
 | [], _ => by simp [cn, sm, sumTo_const]
 | p :: P, h => by
  have h1 := cn_levels M P fun x hx => h x (by simp [hx])
  have h2 := h p (by simp)
  simp only [cn, Nat.add_mul]
  rw [sumTo_add, sm_cons, List.length_cons, Nat.succ_mul]
  have : ∀ t, t <= M -> sumTo (fun j => (if decide (M - j <= p.2) = true then 1 else 0) * 2 ^ j) t + 2 ^ min t (M - p.2) = 2 ^ t := by
   intro t
   induction t with
   | zero => intro _; simp [sumTo]
   | succ t ih =>
    intro ht
    have ih := ih (by omega)
    simp only [sumTo]
    have hp : 2 ^ (t + 1) = 2 ^ t + 2 ^ t := by rw [Nat.pow_succ]; omega
    by_cases hh : M - t <= p.2
    ·rw [if_pos (by simpa using hh), Nat.min_eq_right (by omega)]
     rw [Nat.min_eq_right (by omega)] at ih
     omega
    ·rw [if_neg (by simpa using hh), Nat.min_eq_left (by omega)]
     rw [Nat.min_eq_left (by omega)] at ih
     omega
  have := this M (Nat.le_refl _)
  rw [Nat.min_eq_right (by omega)] at this
  omega
theorem best (M : Nat) (hM : 1 <= M) (P : List (Nat × Nat)) (h1 : ∀ p ∈ P, p.2 <= M) (h2 : sm (fun p => 2 ^ (M - p.2)) P <= 2 ^ M) :
  sm (fun x => x) ((lvl (fun x => x) (fun x y => x + y) (isrt (fun x => x) (P.map Prod.fst)) (M - 1)).take (2 * P.length - 2)) <= sm (fun p => p.1 * p.2) P := by
 obtain ⟨J, rfl⟩ : ∃ J, M = J + 1 := ⟨M - 1, by omega⟩
 rw [Nat.add_sub_cancel]
 have hlen : (isrt (fun x : Nat => x) (P.map Prod.fst)).length = P.length := by rw [isrt_length, List.length_map]
 have ho := (opt (fun x => x) (fun x y => x + y) (fun _ _ => rfl) (isrt (fun x => x) (P.map Prod.fst)) (isrt_up _ _) (fun j => cn (fun l => decide (J + 1 - j <= l)) P) (fun j => by rw [hlen]; exact cn_le _ _) J).2
 have hc := cn_levels (J + 1) P h1
 have hy := yy_pow (fun j => cn (fun l => decide (J + 1 - j <= l)) P) J
 have hco := co_levels (J + 1) P h1
 have hle : sumTo (fun i => sm (fun x => x) ((isrt (fun x => x) (P.map Prod.fst)).take (cn (fun l => decide (J + 1 - i <= l)) P))) (J + 1) <= sumTo (fun j => co (fun l => decide (J + 1 - j <= l)) P) (J + 1) :=
  sumTo_le fun i _ => least_of _ _
 generalize hY : yy (fun j => cn (fun l => decide (J + 1 - j <= l)) P) J = Y at *
 have hY2 : 2 * P.length - 2 <= Y := by
  refine Nat.le_of_not_lt fun hlt => ?_
  have e1 : 2 ^ (J + 1) = 2 * 2 ^ J := by rw [Nat.pow_succ, Nat.mul_comm]
  have e2 : P.length * 2 ^ (J + 1) = 2 * P.length * 2 ^ J := by rw [e1, Nat.mul_comm 2 P.length, Nat.mul_assoc]
  have e3 : (Y + 3) * 2 ^ J <= 2 * P.length * 2 ^ J := Nat.mul_le_mul_right _ (by omega)
  rw [Nat.add_mul] at e3
  generalize Y * 2 ^ J = u at *
  generalize 2 * P.length * 2 ^ J = v at *
  generalize 2 ^ J = z at *
  omega
 have hm := sm_take_mono (fun x : Nat => x) (lvl (fun x => x) (fun x y => x + y) (isrt (fun x => x) (P.map Prod.fst)) J) _ _ hY2
 omega
end Lm
end Go.Proofs.YtckbhciehmokdaaGreatDoor.Ls
namespace Go.Proofs.YtckbhciehmokdaaGreatDoor
set_option maxRecDepth 100000
set_option maxHeartbeats 8000000
open Go.RowKit
theorem rget_short (s : Value) (bs : List Nat) (N p n : Nat) (w : World) (hs : Sl w s bs) (hN : N <= 9223372036854775807) (hr : Bs.right bs N) (hn : n <= 32) (hp : p <= N) (hsh : N - p < n) :
  Calls Tryz.prog 122 #[.agg #[s, .int .i64 (N : Int)], .int .i64 (p : Int), .int .i64 (n : Int)] w (Nums w 0 4) := by
 have HS := LH hs
 have HR := LH hr
 clear hs hr
 obtain ⟨a, len, cap, rfl, hl⟩ := HS.out.shape
 clear hl
 go_enter Tryz.func122, Tryz.ntmps122
 go_wp2_with fail
 refine (rright_ok _ bs N _ (HS.out.later (below1 _ _)) hN HR.out).mono ?_
 rintro e w1 ⟨rfl, hb1⟩
 obtain ⟨k1, kb, ks⟩ := facts1 hb1
 clear hb1
 obtain ⟨c0, c1, f0, f1⟩ := k1.two
 have d1 : decide ((n : Int) < 0) = false := by simp
 have d2 : decide (32 < (n : Int)) = false := by simp; omega
 have d3 : decide ((p : Int) < 0) = false := by simp
 have d4 : decide (N < p) = false := by simp; omega
 have d5 : decide ((N : Int) - (p : Int) < (n : Int)) = true := by simp; omega
 go_wp2
 go_ret2
 exact ⟨rfl, kb⟩
theorem add_step (V k : Nat) (b : Bool) (hk : k < 32) (hV : V < 2 ^ k) : wrap64 ((V : Int) + wrap64 ((b.toNat : Int) * 2 ^ k)) = ((V + b.toNat * 2 ^ k : Nat) : Int) := by
 have h2 : 2 ^ k < 2 ^ 32 := Nat.pow_lt_pow_right (by omega) hk
 have hb : b.toNat <= 1 := by cases b <;> simp
 have h3 : b.toNat * 2 ^ k < 2 ^ 32 := by have := Nat.mul_le_mul_right (2 ^ k) hb; omega
 have e : ((b.toNat : Int) * 2 ^ k) = ((b.toNat * 2 ^ k : Nat) : Int) := by simp
 rw [e, IntWalk.wrap64_in ((b.toNat * 2 ^ k : Nat) : Int) (by omega), IntWalk.wrap64_in _ (by omega)]
 omega
theorem rget_ok (s : Value) (l : List Bool) (N p n : Nat) (w : World) (hs : Sl w s (Bs.pack l)) (hl : Hid (N = l.length)) (hN : N <= 2251799813685248) (hn : n <= 32) (hp : p + n <= N) :
  Calls Tryz.prog 122 #[.agg #[s, .int .i64 (N : Int)], .int .i64 (p : Int), .int .i64 (n : Int)] w (Nums w (Bs.num ((l.drop p).take n)) 0) := by
 have HS := LH hs
 clear hs
 obtain ⟨a, len, cap, rfl, hl'⟩ := HS.out.shape
 clear hl'
 go_enter Tryz.func122, Tryz.ntmps122
 go_wp2_with fail
 refine (rright_ok _ (Bs.pack l) N _ (HS.out.later (below1 _ _)) (by omega) (by rw [hl.out]; exact Bs.pack_right l)).mono ?_
 rintro e w1 ⟨rfl, hb1⟩
 obtain ⟨k1, kb, ks⟩ := facts1 hb1
 clear hb1
 obtain ⟨c0, c1, f0, f1⟩ := k1.two
 have HS1 := LH (HS.out.later kb)
 have d1 : decide ((n : Int) < 0) = false := by simp
 have d2 : decide (32 < (n : Int)) = false := by simp; omega
 have d3 : decide ((p : Int) < 0) = false := by simp
 have d4 : decide (N < p) = false := by simp; omega
 have d5 : decide ((N : Int) - (p : Int) < (n : Int)) = false := by simp; omega
 go_wp2_with fail
 have HL : Hid (l.length <= 2251799813685248) := by show _ <= _; rw [<- hl.out]; exact hN
 have HW1 : Hid (Below w1.heap.size w1 w1) := Below.refl _ _
 clear c0 c1 f0 f1
 go_loopw [8, 9] (fun v i wr => ∃ k V : Nat, k <= n /\ i = .int .i64 k /\ v = .int .i64 (V : Int) /\ Hid (V = Bs.num ((l.drop p).take k)) /\ Hid (Below w1.heap.size w1 wr)) (fun _ i _ => n - (intOf i).toNat)
 case atStart => exact ⟨0, 0, Nat.zero_le _, rfl, rfl, by show _ = _; simp [Bs.num], HW1⟩
 case round =>
  obtain ⟨k, V, hk, rfl, rfl, hV, HW⟩ := hrel
  have k2 := k1.later HW.out
  obtain ⟨c0, c1, f0, f1⟩ := k2.two
  by_cases hlt : k < n
  ·obtain ⟨b, hb⟩ : ∃ b, b = l[p + k]?.getD false := ⟨_, rfl⟩
   have HB := LH hb
   have hb2 : b.toNat < 2 := Bool.toNat_lt b
   have hs1 : 0 <= (p : Int) + (k : Int) := by omega
   have hpk : p + k < l.length := by rw [<- hl.out]; omega
   have HPK := LH hpk
   have HS2 := LH (HS1.out.later HW.out)
   clear hb hpk
   go_wp2_with (go_at_call 163; refine (rbit_is _ l _ (p + k) N b _ HS2.out (show _ = _ by simp) HB HPK.out HL.out).mono ?_; rintro e w2 ⟨rfl, hb3⟩; have HB3 := LH hb3; clear hb3)
   refine ⟨⟨k + 1, V + b.toNat * 2 ^ k, by omega, by go_num, ?_, ?_, ?_⟩, ?_⟩
   ·rw [add_step V k b (by omega) (by rw [hV.out]; exact num_take_lt l p k)]
   ·show _ = _
    rw [num_step l p k b HPK.out HB.out, hV.out]
   ·exact HW.out.trans (HB3.out.mono HW.out.size)
   ·simp [intOf]; omega
  ·obtain rfl : k = n := by omega
   go_wp2
   go_ret2
   exact ⟨by rw [hV.out]; rfl, kb.trans (HW.out.mono (by omega))⟩
end Go.Proofs.YtckbhciehmokdaaGreatDoor
