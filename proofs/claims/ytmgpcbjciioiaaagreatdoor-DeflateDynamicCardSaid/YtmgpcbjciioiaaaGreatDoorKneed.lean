import Derived.Test.YtmgpcbjciioiaaaGreatDoorSlone
import Derived.Test.YtmgpcbjciioiaaaGreatDoorHsort
import Derived.Test.YtmgpcbjciioiaaaGreatDoorCarg
import Derived.Test.YtmgpcbjciioiaaaGreatDoorSone
import Derived.Deep.RegionLawGrows
import Derived.Defers
import Derived.Recover
namespace Go.Proofs.YtmgpcbjciioiaaaGreatDoor
set_option maxRecDepth 100000
set_option maxHeartbeats 8000000
section
open Go.RowKit Go.Shelf
attribute [local go_sem] Oper.semAt_some
def newE (zs : List Int) : Int := if chk zs = 12 /\ Lone (nat zs) then 0 else chk zs
def cnt (ps : List (Nat × Nat)) (l : Nat) : Nat := (ps.filter fun p => p.2 == l).length
end
section
namespace Hd
open Classical in
noncomputable def rd (ls : List Nat) (l : List Bool) (p : Nat) : Nat × Nat × Int := if h : ∃ r,Hf.Rd ls l p 0 r then h.choose else (0,0,0)
theorem rd_is {ls : List Nat} {l : List Bool} {p : Nat} {r : Nat × Nat × Int} (h : Hf.Rd ls l p 0 r) : rd ls l p = r := by
 unfold rd
 have hx : ∃ r,Hf.Rd ls l p 0 r := ⟨r,h⟩
 rw [dif_pos hx]
 exact Hf.rd_one hx.choose_spec h
theorem rd_facts {ls : List Nat} {l : List Bool} {p j : Nat} {r : Nat × Nat × Int} (h : Hf.Rd ls l p j r) : (r.2.2 = 0 -> r.1 < ls.length /\ p + j < r.2.1 /\ r.2.1 <= l.length) /\ (r.2.2 ≠ 0 -> r.1 = 0 /\ r.2.1 = 0) /\ (r.2.2 = 0 ∨ r.2.2 = 4 ∨ r.2.2 = 13) := by
 induction h with
 | short j h1 h2 => refine ⟨fun h => ?_,fun _ => ⟨rfl,rfl⟩,Or.inr (Or.inl rfl)⟩; simp at h
 | hit j k h1 h2 h3 =>
  have h4 := (Hf.sy_mem ls k h3.1).1
  generalize Hf.sy ls k = s at h4 ⊢
  refine ⟨fun _ => ⟨h4,?_,?_⟩,fun h => ?_,Or.inl rfl⟩
  ·simp only; omega
  ·simp only; omega
  ·simp at h
 | miss j h1 h2 h3 h4 => refine ⟨fun h => ?_,fun _ => ⟨rfl,rfl⟩,Or.inr (Or.inr rfl)⟩; simp at h
 | next j k r h1 h2 h3 h4 h5 ih => exact ⟨fun h => by have := ih.1 h; omega,ih.2.1,ih.2.2⟩
 | last => refine ⟨fun h => ?_,fun _ => ⟨rfl,rfl⟩,Or.inr (Or.inr rfl)⟩; simp at h
def num (l : List Bool) (p n : Nat) : Nat := Bs.num ((l.drop p).take n)
theorem num_lt (l : List Bool) (p n : Nat) : num l p n < 2 ^ n :=
 Nat.lt_of_lt_of_le (Bs.num_lt _) (Nat.pow_le_pow_right (by omega) (List.length_take_le _ _))
def ex (s : Nat) : Nat := if s = 16 then 2 else if s = 17 then 3 else if s = 18 then 7 else 0
def least (s : Nat) : Nat := if s = 16 then 3 else if s = 17 then 3 else if s = 18 then 11 else 1
def val (acc : List Nat) (s : Nat) : Nat := if s = 16 then acc[acc.length - 1]?.getD 0 else if s = 17 ∨ s = 18 then 0 else s
theorem ex_le (s : Nat) : ex s <= 7 := by unfold ex; split <;> (try split) <;> (try split) <;> omega
theorem least_le (s : Nat) : 1 <= least s /\ least s <= 11 := by unfold least; split <;> (try split) <;> (try split) <;> omega
def take (acc : List Nat) (s v n : Nat) : List Nat × Int :=
 if s = 16 /\ acc.length = 0 then ([],9) else if n < acc.length + (least s + v) then ([],3) else (acc ++ List.replicate (least s + v) (val acc s),0)
noncomputable def runs (ls : List Nat) (l : List Bool) (n : Nat) : Nat -> List Nat -> Nat -> List Nat × Nat × Int
 | 0,acc,p => (acc,p,0)
 | k + 1,acc,p =>
  if n <= acc.length then (acc,p,0) else
  if (rd ls l p).2.2 ≠ 0 then ([],0,(rd ls l p).2.2) else
  if l.length < (rd ls l p).2.1 + ex (rd ls l p).1 then ([],0,4) else
  if (take acc (rd ls l p).1 (num l (rd ls l p).2.1 (ex (rd ls l p).1)) n).2 ≠ 0 then ([],0,(take acc (rd ls l p).1 (num l (rd ls l p).2.1 (ex (rd ls l p).1)) n).2) else
  runs ls l n k (take acc (rd ls l p).1 (num l (rd ls l p).2.1 (ex (rd ls l p).1)) n).1 ((rd ls l p).2.1 + ex (rd ls l p).1)
theorem runs_done (ls : List Nat) (l : List Bool) (n k : Nat) (acc : List Nat) (p : Nat) (h : n <= acc.length) : runs ls l n k acc p = (acc,p,0) := by
 cases k with
 | zero => rfl
 | succ k => simp only [runs]; rw [if_pos h]
theorem runs_sym (ls : List Nat) (l : List Bool) (n k : Nat) (acc : List Nat) (p q s : Nat) (c : Int) (h : acc.length < n) (hk : 0 < k) (hr : rd ls l p = (s,q,c)) (hc : c ≠ 0) : runs ls l n k acc p = ([],0,c) := by
 cases k with
 | zero => omega
 | succ k => simp only [runs]; rw [if_neg (by omega),hr,if_pos hc]
theorem runs_short (ls : List Nat) (l : List Bool) (n k : Nat) (acc : List Nat) (p q s : Nat) (h : acc.length < n) (hk : 0 < k) (hr : rd ls l p = (s,q,0)) (hs : l.length < q + ex s) : runs ls l n k acc p = ([],0,4) := by
 cases k with
 | zero => omega
 | succ k => simp only [runs]; rw [if_neg (by omega),hr,if_neg (by simp),if_pos hs]
theorem runs_take (ls : List Nat) (l : List Bool) (n k : Nat) (acc : List Nat) (p q s v : Nat) (x : List Nat) (c : Int) (h : acc.length < n) (hk : 0 < k) (hr : rd ls l p = (s,q,0)) (hs : q + ex s <= l.length) (hv : v = num l q (ex s)) (ht : take acc s v n = (x,c)) :
  runs ls l n k acc p = if c ≠ 0 then ([],0,c) else runs ls l n (k - 1) x (q + ex s) := by
 cases k with
 | zero => omega
 | succ k => subst hv; simp only [runs]; rw [if_neg (by omega),hr,if_neg (by simp),if_neg (by simp only; omega)]; simp only [ht]; rfl
theorem take_length {acc : List Nat} {s v n : Nat} {x : List Nat} (h : take acc s v n = (x,0)) : acc.length < x.length /\ x.length <= n := by
 unfold take at h
 split at h
 ·simp at h
 ·split at h
  ·simp at h
  ·obtain ⟨rfl,_⟩ := Prod.mk.inj h
   have := least_le s
   rw [List.length_append,List.length_replicate]
   omega
def ord (k : Nat) : Nat := [16,17,18,0,8,7,9,6,10,5,11,4,12,3,13,2,14,1,15][k]?.getD 0
theorem ord_lt (k : Nat) : ord k < 19 := by
 by_cases h : k < 19
 ·exact (by decide : ∀ k : Fin 19,ord k.1 < 19) ⟨k,h⟩
 ·unfold ord; rw [List.getElem?_eq_none (by simp; omega)]; decide
def cl (l : List Bool) (p : Nat) : Nat -> List Nat
 | 0 => List.replicate 19 0
 | k + 1 => (cl l p k).set (ord k) (num l (p + 3 * k) 3)
theorem cl_length (l : List Bool) (p k : Nat) : (cl l p k).length = 19 := by
 induction k with
 | zero => simp [cl]
 | succ k ih => simp [cl,ih]
def zz (ls : List Nat) : List Int := ls.map fun (x : Nat) => (x : Int)
theorem zz_length (ls : List Nat) : (zz ls).length = ls.length := by simp [zz]
theorem nat_zz (ls : List Nat) : nat (zz ls) = ls := by simp [nat,zz,Function.comp_def]
theorem zz_get (ls : List Nat) (i : Nat) : (zz ls)[i]?.getD 0 = ((ls[i]?.getD 0 : Nat) : Int) := by
 unfold zz; rw [List.getElem?_map]; cases ls[i]? <;> rfl
noncomputable def head (l : List Bool) (p : Nat) : List Nat × List Nat × Nat × Int :=
 if l.length < p + 10 then ([],[],0,4) else
 if 286 < num l p 5 + 257 ∨ 30 < num l (p + 5) 5 + 1 then ([],[],0,3) else
 if l.length < p + 14 then ([],[],0,4) else
 if l.length < p + 14 + 3 * (num l (p + 10) 4 + 4) then ([],[],0,4) else
 if newE (zz (cl l (p + 14) (num l (p + 10) 4 + 4))) ≠ 0 then ([],[],0,newE (zz (cl l (p + 14) (num l (p + 10) 4 + 4)))) else
 if (runs (cl l (p + 14) (num l (p + 10) 4 + 4)) l (num l p 5 + 257 + (num l (p + 5) 5 + 1)) 400 [] (p + 14 + 3 * (num l (p + 10) 4 + 4))).2.2 ≠ 0 then
  ([],[],0,(runs (cl l (p + 14) (num l (p + 10) 4 + 4)) l (num l p 5 + 257 + (num l (p + 5) 5 + 1)) 400 [] (p + 14 + 3 * (num l (p + 10) 4 + 4))).2.2) else
 ((runs (cl l (p + 14) (num l (p + 10) 4 + 4)) l (num l p 5 + 257 + (num l (p + 5) 5 + 1)) 400 [] (p + 14 + 3 * (num l (p + 10) 4 + 4))).1.take (num l p 5 + 257),
  (runs (cl l (p + 14) (num l (p + 10) 4 + 4)) l (num l p 5 + 257 + (num l (p + 5) 5 + 1)) 400 [] (p + 14 + 3 * (num l (p + 10) 4 + 4))).1.drop (num l p 5 + 257),
  (runs (cl l (p + 14) (num l (p + 10) 4 + 4)) l (num l p 5 + 257 + (num l (p + 5) 5 + 1)) 400 [] (p + 14 + 3 * (num l (p + 10) 4 + 4))).2.1,0)
end Hd
end
section
open Go.RowKit
theorem below_grown {B g0 : Nat} {W w w' : World} (hb : Below B W w) (hg : w.grownBy w' (some g0)) (hB : B <= g0) (hs : B <= w.heap.size) : Below B W w' :=
 hb.grown hg hs (by intro k hk; injection hk; omega)
theorem Sl.facts {w : World} {s : Value} {bs : List Nat} (h : Sl w s bs) : (∀ x ∈ bs,x < 256) /\ bs.length <= 281474976710656 := by
 obtain ⟨a,len,cap,_,h1,h2,_,h8,_⟩ := h
 exact ⟨h8,h1 ▸ h2⟩
theorem Sl.grown {g0 : Nat} {w w0 w' : World} {s : Value} {bs : List Nat} (h : Sl w0 s bs) (h0 : Below w0.heap.size w0 w) (hg : w.grownBy w' (some g0)) (hB : w0.heap.size <= g0) : Sl w' s bs :=
 h.later (below_grown h0 hg hB h0.size)
theorem Sl.take {w : World} {a : Option Addr} {len cap : Nat} {bs : List Nat} (h : Sl w (.slice a len cap) bs) (k : Nat) (hk : k <= len) : Sl w (.slice a k cap) (bs.take k) := by
 obtain ⟨a',len',cap',he,h1,h2,h3,h4,h5⟩ := h
 injection he with e1 e2 e3
 subst e1 e2 e3
 refine ⟨_,k,cap,rfl,by rw [List.length_take]; omega,by omega,fun h => ⟨by have := (h3 h).1; omega,(h3 h).2⟩,fun x hx => h4 x (List.mem_of_mem_take hx),fun h0 => ?_⟩
 obtain ⟨b,off,rfl,hlt,hc⟩ := h5 (by omega)
 refine ⟨b,off,rfl,hlt,fun i hi => ?_⟩
 rw [hc i (by omega),List.getElem?_take_of_lt hi]
theorem Sl.drew {w : World} {s : Value} {bs : List Nat} (h : Sl w s bs) : Sl w.drew s bs := h
theorem Sl.at {w : World} {a : Option Addr} {len cap : Nat} {bs : List Nat} (h : Sl w (.slice a len cap) bs) (k : Nat) (hk : k < len) :
  ∃ b off,a = some ⟨b,off,none⟩ /\ b < w.heap.size /\ w.cell? ⟨b,off + k,none⟩ = some (.int .u8 ((bs[k]?.getD 0 : Nat) : Int)) /\ bs[k]?.getD 0 < 256 /\ k < bs.length := by
 obtain ⟨a',len',cap',he,h1,h2,h3,h4,h5⟩ := h
 injection he with e1 e2 e3
 subst e1 e2 e3
 obtain ⟨b,off,rfl,hlt,hc⟩ := h5 (by omega)
 refine ⟨b,off,rfl,hlt,hc k hk,?_,by omega⟩
 rw [List.getElem?_eq_getElem (by omega)]
 exact h4 _ (List.getElem_mem _)
end
section
namespace Hf
theorem apart_long (ls : List Nat) (j k : Nat) (hj : j < (ordl ls).length) (hk : k < (ordl ls).length) (hlt : ln ls (sy ls j) < ln ls (sy ls k)) : cd ls j < cd ls k / 2 ^ (ln ls (sy ls k) - ln ls (sy ls j)) := by
 have h15 := (sy_mem ls k hk).2.2
 have hjk : j < k := by
  rcases Nat.lt_trichotomy j k with h | h | h
  ·exact h
  ·rw [h] at hlt; omega
  ·have := sy_lt ls k j h hj; unfold Lt at this; omega
 have e1 := cd_pf ls j hj
 have e2 := cd_pf ls k hk
 have e3 := pf_mono ls (j + 1) k hjk
 have e4 : pf ls (j + 1) = pf ls j + 2 ^ (15 - ln ls (sy ls j)) := rfl
 have e5 : 2 ^ (ln ls (sy ls k) - ln ls (sy ls j)) * 2 ^ (15 - ln ls (sy ls k)) = 2 ^ (15 - ln ls (sy ls j)) := by
  rw [<- Nat.pow_add,show ln ls (sy ls k) - ln ls (sy ls j) + (15 - ln ls (sy ls k)) = 15 - ln ls (sy ls j) by omega]
 have hpos := Nat.two_pow_pos (15 - ln ls (sy ls k))
 rw [Nat.lt_iff_add_one_le,Nat.le_div_iff_mul_le (Nat.two_pow_pos _)]
 refine Nat.le_of_mul_le_mul_right ?_ hpos
 rw [Nat.mul_assoc,e5,e2,Nat.succ_mul,e1]
 omega
end Hf
end
section
namespace Hf
theorem vb_split (l : List Bool) (p n d : Nat) : ∃ r,r < 2 ^ d /\ vb l p (n + d) = vb l p n * 2 ^ d + r := by
 induction d with
 | zero => exact ⟨0,by simp,by simp⟩
 | succ d ih =>
  obtain ⟨r,hr,e⟩ := ih
  have hb : (l[p + (n + d)]?.getD false).toNat < 2 := Bool.toNat_lt _
  refine ⟨2 * r + (l[p + (n + d)]?.getD false).toNat,by rw [Nat.pow_succ]; omega,?_⟩
  show 2 * vb l p (n + d) + (l[p + (n + d)]?.getD false).toNat = _
  rw [e,Nat.pow_succ]
  generalize vb l p n = v
  generalize 2 ^ d = q
  have h : v * (q * 2) = 2 * (v * q) := by rw [Nat.mul_comm q 2,<- Nat.mul_assoc,Nat.mul_comm v 2,Nat.mul_assoc]
  rw [h]
  omega
theorem vb_head (l : List Bool) (p n d : Nat) : vb l p (n + d) / 2 ^ d = vb l p n := by
 obtain ⟨r,hr,e⟩ := vb_split l p n d
 rw [e,Nat.mul_comm,Nat.mul_add_div (Nat.two_pow_pos d),Nat.div_eq_of_lt hr,Nat.add_zero]
theorem hit_beg {ls : List Nat} {l : List Bool} {p n k : Nat} (h : Hit ls l p n k) (m : Nat) (hm : m <= n) : Beg ls l p m k := by
 obtain ⟨h1,h2,h3⟩ := h
 refine ⟨h1,by omega,?_⟩
 rw [h2,h3]
 have := vb_head l p m (n - m)
 rwa [show m + (n - m) = n by omega] at this
theorem hit_only {ls : List Nat} {l : List Bool} {p n k m : Nat} (h : Hit ls l p n k) (hm : m < n) (k' : Nat) : ¬ Hit ls l p m k' := by
 intro h'
 obtain ⟨g1,g2,g3⟩ := h'
 have hb := hit_beg h m (by omega)
 obtain ⟨h1,h2,h3⟩ := h
 have := apart_long ls k' k g1 h1 (by omega)
 rw [g2,hb.2.2,g3] at this
 omega
theorem rd_hit {ls : List Nat} {l : List Bool} {p n k : Nat} (h : Hit ls l p n k) (hn : 0 < n) (hp : p + n <= l.length) : Rd ls l p 0 (sy ls k,p + n,0) := by
 have h15 : n <= 15 := by have := (sy_mem ls k h.1).2.2; have := h.2.1; omega
 have key : ∀ d j,j + d + 1 = n -> Rd ls l p j (sy ls k,p + n,0) := by
  intro d
  induction d with
  | zero =>
   intro j hj
   have e : n = j + 1 := by omega
   subst e
   exact Rd.hit j k (by omega) (by omega) h
  | succ d ih =>
   intro j hj
   exact Rd.next j k _ (by omega) (by omega) (hit_only h (by omega)) (hit_beg h (j + 1) (by omega)) (ih (j + 1) (by omega))
 exact key (n - 1) 0 (by omega)
end Hf
end
section
open Go.RowKit
theorem with_any (s : Value) (l : List Bool) (b : Bool) (base N : Nat) (w : World) (hr : Row w base s l) (hb : base <= w.heap.size) (hl : Hid (N = l.length)) (hN : N <= 1125899906842000) :
  Calls Tryz.prog 69 #[.agg #[s,.int .i64 (N : Int)],.int .i64 (b.toNat : Int)] w (WithPost w base s (l ++ [b])) := by
 by_cases h0 : N % 8 = 0
 ·exact with_new s l b base N w hr hb hl hN (by rw [beq_iff_eq]; omega)
 ·have hl' := hl.out
  rcases hr.2 with ⟨_,h⟩ | ⟨g,cap,_,rfl,_⟩
  ·omega
  ·exact with_mid g _ cap l b base N w hr hb hl hN (by rw [beq_eq_false_iff_ne]; omega)
theorem own_weaken {w : World} {base base' : Nat} {e : TypeId} {size : Nat} {v : Value} {n : Nat} {xs : List Value} (h : w.ownsRow base e size v n xs) (hb : base' <= base) : w.ownsRow base' e size v n xs := by
 refine ⟨h.1,?_⟩
 rcases h.2 with h2 | ⟨g,cap,cur,hv,hg,r⟩
 ·exact Or.inl h2
 ·exact Or.inr ⟨g,cap,cur,hv,by omega,r⟩
end
section
open Go.RowKit
theorem Row.shape {w : World} {base : Nat} {s : Value} {l : List Bool} (h : Row w base s l) : ∃ a n cap,s = .slice a n cap := by
 rcases h.2 with ⟨rfl,_⟩ | ⟨g,cap,cur,rfl,_⟩
 ·exact ⟨_,_,_,rfl⟩
 ·exact ⟨_,_,_,rfl⟩
theorem Row.weaken {w : World} {base base' : Nat} {s : Value} {l : List Bool} (h : Row w base s l) (hb : base' <= base) : Row w base' s l := own_weaken h hb
theorem Row.ne {w : World} {base b : Nat} {s : Value} {l : List Bool} {cs : Array Value} {fr : Nat × Nat} (h : Row w base s l) (hb : Has w b (.cells cs 64 fr)) : s.ownBlock ≠ some b := own_ne h hb
abbrev rowVar (a : Option Addr) (n cap : Nat) (N : Int) : Obj := .cells #[.slice a n cap,.int .i64 N] 64 (0,0)
end
section
open Go.RowKit
def strB (bs : List Nat) : ByteArray := strOfNums (bs.map fun (x : Nat) => (x : Int))
theorem run_string {P : Program} (w : World) (src dst e : TypeId) (hs : P.underlying src = some (.slice e)) (he : P.underlying e = some (.int .u8)) (hd : P.underlying dst = some .string) (a : Option Addr) (len cap : Nat) (bs : List Nat) (h : Sl w (.slice a len cap) bs) :
  (convert src dst (.slice a len cap)).run P w = .ok (.string (strB bs)) w := by
 obtain ⟨a',len',cap',he',h1,h2,h3,h4,h5⟩ := h
 injection he' with e1 e2 e3
 subst e1 e2 e3
 by_cases h0 : 0 < len
 ·obtain ⟨b,off,rfl,hlt,hc⟩ := h5 h0
  refine run_convert_bytes_arg w src e hs he b off len cap (bs.map fun (x : Nat) => (x : Int)) (by rw [List.length_map,h1]) (fun i hi => ?_) dst hd
  rw [hc i hi]
  simp [List.getD,List.getElem?_eq_getElem (show i < bs.length by omega)]
 ·obtain rfl : len = 0 := by omega
  obtain rfl : bs = [] := List.eq_nil_of_length_eq_zero h1.symm
  cases a with
  | none => exact run_convert_bytes_nil w src e hs he 0 cap dst hd
  | some p =>
   have hl : (loadCells p 0).run P w = .ok (([] : List Int).map (Value.int .u8)).toArray w := by
    have := run_loadCells_list (P := P) w p [] (fun j v hj => by simp at hj)
    simpa using this
   rw [run_convert_bytes_string w src dst e _ 0 cap hs he hd,run_bytesToString w p 0 cap [] hl]
   rfl
theorem Sl.has {w : World} {g : Nat} {bs : List Nat} (h : Has w g (bytesObj bs)) (h8 : ∀ x ∈ bs,x < 256) (hl : bs.length <= 281474976710656) (m cap : Nat) (hm : m = bs.length) : Sl w (.slice (some ⟨g,0,none⟩) m cap) bs := by
 refine ⟨_,m,cap,rfl,hm,by omega,fun h => by simp at h,h8,fun h0 => ⟨g,0,rfl,h.lt,fun i hi => ?_⟩⟩
 rw [Nat.zero_add,h.cell]
 have : i < bs.length := by omega
 simp [vb,this]
end
section
open Go.RowKit
def Good (ls : List Nat) : Prop := 0 < (Hf.ordl ls).length /\ (Hf.ordl ls).length <= 288 /\ (Hf.pf ls (Hf.ordl ls).length = 32768 ∨ ((Hf.ordl ls).length = 1 /\ Hf.ln ls (Hf.sy ls 0) = 1))
def RdPost (w : World) (ls : List Nat) (l : List Bool) (p : Nat) (e : Ending) (w' : World) : Prop :=
 ∃ r : Nat × Nat × Int,e = .returned (.tuple #[.int .i64 (r.1 : Int),.int .i64 (r.2.1 : Int),.int .i64 r.2.2]) /\ Hf.Rd ls l p 0 r /\ Below w.heap.size w w'
end
section
open Go.RowKit
structure Tb (w : World) (T g capg : Nat) (ls : List Nat) : Prop where
 counts : Rw w T 16 (cnt (usedTo ls ls.length))
 slice : w.cell? ⟨T,16,none⟩ = some (.slice (some ⟨g,0,none⟩) (Hf.ordl ls).length capg)
 cap : (Hf.ordl ls).length <= capg
 syms : Rw w g (Hf.ordl ls).length (fun i => (Hf.ordl ls)[i]?.getD 0)
theorem rw_below {B : Nat} {w w' : World} {g n : Nat} {d : Nat -> Nat} (h : Rw w g n d) (hg : g < B) (hb : Below B w w') : Rw w' g n d := h.same (hb.block g hg) (Nat.lt_of_lt_of_le h.lt hb.size)
theorem Tb.below {w w' : World} {T g capg : Nat} {ls : List Nat} (h : Tb w T g capg ls) (hb : Below w.heap.size w w') : Tb w' T g capg ls :=
 ⟨rw_below h.counts h.counts.lt hb,by rw [hb.cell (p := ⟨T,16,none⟩) h.counts.lt]; exact h.slice,h.cap,rw_below h.syms h.syms.lt hb⟩
end
section
open Go.RowKit
def Pan (c : Int) : List PanicEntry := [{ v := .iface 23 (.int .i64 c),recovered := false }]
theorem needInts_ok (v : Value) (w : World) : Calls Tryz.prog 118 #[v,.int .i64 0] w fun e w' => e = .returned v /\ w = w' := by
 go_enter Tryz.func118,Tryz.ntmps118
 go_wp2
 go_ret
 exact ⟨rfl,rfl⟩
theorem catch_idle (p : Addr) (w : World) :
  CallsD Tryz.prog 116 #[.pointer (some p)] .returning w fun e u' w' => e = .returned (.tuple #[]) /\ u' = .returning /\ w' = w := by
 refine callsD_of_wpS Tryz.func116 rfl fun c₀ cs hu => ?_
 apply wpS_seq
 apply wpS_region
 simp [wpOpsS,go_sem,recoverD,hu,Tryz.ntmps116,Exit.thenS,Array.replicate_succ,Array.replicate_zero]
 apply wpS_seq
 apply wpS_region
 simp [wpOpsS,go_sem,Exit.thenS]
 refine wpS_cond (t := false) (by simp [Act.eval]) ?_
 simp only [Bool.false_eq_true,if_false]
 refine wpS_of_wp (wp_skip ?_)
 cases c₀
 simp_all [bodyPostS,results,Tryz.results116]
theorem caught_ok (F : FuncId) (caps : Array Value) (w : World) (Q : World -> Prop) (hcall : ∀ args w,(callFunc F args).run Tryz.prog w = .ok (.enter F args) w)
  (hdo : Calls Tryz.prog F caps (w.alloc (.cells #[.int .i64 0] 23)) fun e w' => e = .returned (.tuple #[]) /\ Has w' w.heap.size (.cells #[.int .i64 0] 23 (0,0)) /\ Q w') :
  Calls Tryz.prog 77 #[.func (.func F) #[] caps] w fun e w' => e = .returned (.int .i64 0) /\ ∃ w2,Q w2 /\ w' = w2.setCell ⟨w.heap.size,0,none⟩ (.int .i64 0) := by
 have hmf : ∀ (fn : Fn) (first cap : Array Value) (w : World),(Instr.makeFunc fn first cap).run Tryz.prog w = .ok (.func fn first cap) w := fun _ _ _ _ => rfl
 have HD := LH hdo
 clear hdo
 go_enter_defers Tryz.func77,Tryz.ntmps77
 go_wp2_with fail
 refine HD.out.mono ?_
 clear HD
 rintro e w2 ⟨rfl,hx,hq⟩
 obtain ⟨c0,z0⟩ := hx.one
 have HQ := LH hq
 have HX := LH hx
 clear hx hq
 go_wp2
 refine leaves_cons (f := 116) (args := #[.pointer (some ⟨w.heap.size,0,none⟩)]) (by simp) (by simp [go_sem]) ?_
 refine (catch_idle ⟨w.heap.size,0,none⟩ _).mono ?_
 rintro e u' w'' ⟨rfl,rfl,rfl⟩
 have c1 := ((HX.out.setSelf (i := 0) (.int .i64 0))).cell 0
 simp at c1
 simp [Leaves,settle,results,Tryz.results77,go_sem,c1]
 exact ⟨w2,HQ.out,rfl⟩
end
end Go.Proofs.YtmgpcbjciioiaaaGreatDoor
