import Derived.Test.YtmgpcbjciioiaaaGreatDoorHrnew
import Derived.Test.YtmgpcbjciioiaaaGreatDoorDcat
import Derived.Test.YtmgpcbjciioiaaaGreatDoorImost
import Derived.Test.YtmgpcbjciioiaaaGreatDoorKclone
import Derived.Test.YtmgpcbjciioiaaaGreatDoorKrcodes
namespace Go.Proofs.YtmgpcbjciioiaaaGreatDoor
set_option maxRecDepth 100000
set_option maxHeartbeats 8000000
section
open Go.RowKit Mt
theorem alk_step (bs : List Nat) (p q W k : Nat) (h : k < W) (e : by' bs (p + k) = by' bs (q + k)) : alk bs p q (W - k) k = alk bs p q (W - (k + 1)) (k + 1) + 1 := by
 obtain ⟨d,rfl⟩ : ∃ d,W = k + 1 + d := ⟨W - (k + 1),by omega⟩
 rw [show k + 1 + d - k = d + 1 by omega,show k + 1 + d - (k + 1) = d by omega]
 simp only [alk]
 rw [if_pos e]
theorem alk_stop (bs : List Nat) (p q W k : Nat) (h : k < W) (e : ¬ by' bs (p + k) = by' bs (q + k)) : alk bs p q (W - k) k = 0 := by
 obtain ⟨d,rfl⟩ : ∃ d,W = k + 1 + d := ⟨W - (k + 1),by omega⟩
 rw [show k + 1 + d - k = d + 1 by omega]
 simp only [alk]
 rw [if_neg e]
theorem alike_ok (b o1 c1 n1 o2 c2 W p q : Nat) (bs : List Nat) (w : World) (h1 : ∀ j,j < W -> w.cell? ⟨b,o1 + j,none⟩ = some (.int .u8 ((by' bs (p + j) : Nat) : Int))) (h2 : ∀ j,j < W -> w.cell? ⟨b,o2 + j,none⟩ = some (.int .u8 ((by' bs (q + j) : Nat) : Int))) (hW : W <= n1) (h9 : n1 <= 100000) :
  Calls Tryz.prog 130 #[.slice (some ⟨b,o1,none⟩) n1 c1,.slice (some ⟨b,o2,none⟩) W c2] w fun e w' => e = .returned (.int .i64 ((alk bs p q W 0 : Nat) : Int)) /\ w = w' := by
 have H1 := LH h1
 have H2 := LH h2
 obtain ⟨r,hr⟩ : ∃ r,r = alk bs p q W 0 := ⟨_,rfl⟩
 rw [<- hr]
 have HR := LH hr
 clear h1 h2 hr
 go_enter Tryz.func130,Tryz.ntmps130
 go_wp2
 go_loop [9] (fun s => ∃ k : Nat,k <= W /\ s = .int .i64 k /\ Hid (r = k + alk bs p q (W - k) k)) (fun s => W - (intOf s).toNat)
 case atStart => exact ⟨0,Nat.zero_le _,rfl,LH (by rw [HR.out,Nat.zero_add]; rfl)⟩
 case round =>
  obtain ⟨k,hk,rfl,hkr⟩ := hrel
  by_cases hlt : k < W
  ·have c1 := H1.out k hlt
   have c2 := H2.out k hlt
   by_cases he : by' bs (p + k) = by' bs (q + k)
   ·have hs := alk_step bs p q W k hlt he
    have HN : Hid (r = k + 1 + alk bs p q (W - (k + 1)) (k + 1)) := LH (by have := hkr.out; omega)
    rw [he] at c1
    obtain ⟨x,hx⟩ : ∃ x,x = by' bs (q + k) := ⟨_,rfl⟩
    rw [<- hx] at c1 c2
    have b1 : (k : Int) < (n1 : Int) := by omega
    have b2 : (k : Int) < (W : Int) := by omega
    clear he hx hs hkr
    go_wp2
    go_round
    case rel => exact ⟨k + 1,by omega,by go_num,HN⟩
    case measure => simp [intOf]; omega
   ·have hs := alk_stop bs p q W k hlt he
    obtain rfl : r = k := by have := hkr.out; omega
    obtain ⟨x,hx⟩ : ∃ x,x = by' bs (q + r) := ⟨_,rfl⟩
    obtain ⟨y,hy⟩ : ∃ y,y = by' bs (p + r) := ⟨_,rfl⟩
    rw [<- hx] at c2 he
    rw [<- hy] at c1 he
    have b1 : (r : Int) < (n1 : Int) := by omega
    have b2 : (r : Int) < (W : Int) := by omega
    have e1 : ¬ ((y : Int) = (x : Int)) := by omega
    clear hx hy hs hkr HR
    go_wp2
    go_ret
    exact ⟨rfl,rfl⟩
  ·obtain rfl : k = W := by omega
   obtain rfl : r = k := by have := hkr.out; rw [Nat.sub_self] at this; simpa [alk] using this
   go_wp2
   go_ret
   exact ⟨rfl,rfl⟩
end
section
open Go.RowKit
theorem ext_is (F : FuncId) (hcall : ∀ (args : Array Value) (wx : World),(callFunc F args).run Tryz.prog wx = .ok (.enter F args) wx) (caps : Array Value) (l : List Bool) (f : Nat -> Bool) (q1 q2 : Int) (a : Option Addr) (len cap N k : Nat) (w : World)
  (hs : Sl w (.slice a len cap) (Bs.pack l)) (hl : Hid (N = l.length)) (hN : N <= 1125899906842624) (hk : k <= 1125899906842624) (h1 : Hid (q1 = (N : Int))) (h2 : Hid (q2 = (k : Int)))
  (hnext : Hid (∀ (i : Nat) (wx : World),i < k -> Below w.heap.size w wx -> Calls Tryz.prog F (#[.int .i64 (i : Int)] ++ caps) wx fun e w' => e = .returned (.int .u8 ((f i).toNat : Int)) /\ Below wx.heap.size wx w')) :
  Calls Tryz.prog 91 #[.agg #[.slice a len cap,.int .i64 q1],.int .i64 q2,.func (.func F) #[] caps] w (OneRow w (more l f k)) := by
 rw [h1.out,h2.out]
 exact (ext_any F hcall caps l f a len cap N k ((N + k + 7) / 8) w hs hl hN hk rfl hnext).mono fun e w' h => h.pack (by rw [<- hl.out])
theorem joinBit (p : Nat) (a : Option Addr) (len cap : Nat) (M : Int) (m : List Bool) (i : Nat) (w : World) (hp : Has w p (.cells #[.slice a len cap,.int .i64 M] 64)) (hs : Sl w (.slice a len cap) (Bs.pack m)) (hi : i < m.length) (hm : m.length <= 2251799813685248) :
  Calls Tryz.prog 98 (#[.int .i64 (i : Int)] ++ #[.pointer (some ⟨p,0,none⟩)]) w fun e w' => e = .returned (.int .u8 ((m[i]?.getD false).toNat : Int)) /\ w = w' := by
 show Calls Tryz.prog 98 #[.int .i64 (i : Int),.pointer (some ⟨p,0,none⟩)] w _
 obtain ⟨b,hb⟩ : ∃ b,b = m[i]?.getD false := ⟨_,rfl⟩
 rw [<- hb]
 have HB := LH hb
 have HS := LH hs
 have HI := LH hi
 have HM := LH hm
 obtain ⟨c0,c1,f0,f1⟩ := hp.two
 clear hb hs hi hm hp
 go_enter Tryz.func98,Tryz.ntmps98
 go_wp2_with fail
 refine (bitAt_is _ m _ i b _ HS.out rfl HB HI.out HM.out).mono ?_
 rintro e w1 ⟨rfl,rfl⟩
 go_wp2
 go_ret
 exact ⟨rfl,rfl⟩
theorem more_all (l m : List Bool) : more l (fun i => m[i]?.getD false) m.length = l ++ m := by
 unfold more
 congr 1
 apply List.ext_getElem?
 intro i
 by_cases h : i < m.length <;> simp [h]
theorem join_ok (s t : Value) (l m : List Bool) (N M : Nat) (w : World) (hs : Sl w s (Bs.pack l)) (ht : Sl w t (Bs.pack m)) (hl : Hid (N = l.length)) (hm : Hid (M = m.length)) (hN : N <= 1125899906842624) (hM : M <= 1125899906842624) :
  Calls Tryz.prog 58 #[.agg #[s,.int .i64 (N : Int)],.agg #[t,.int .i64 (M : Int)]] w (RowPost w (l ++ m)) := by
 have HS := LH hs
 have HT := LH ht
 clear hs ht
 obtain ⟨a,len,cap,rfl,hl'⟩ := HS.out.shape
 obtain ⟨a2,len2,cap2,rfl,hl2'⟩ := HT.out.shape
 clear hl' hl2'
 obtain ⟨L,hL⟩ : ∃ L,L = l ++ m := ⟨_,rfl⟩
 rw [<- hL]
 have HLL := LH hL
 clear hL
 go_enter Tryz.func58,Tryz.ntmps58
 go_wp2_with fail
 refine (check_ok _ (Bs.pack l) N _ (HS.out.later (below3 _ _ _ _)) (by omega) (by rw [hl.out]; exact Bs.pack_right l)).mono ?_
 rintro e w1 ⟨rfl,hb1⟩
 obtain ⟨k1,k2,k3,kb,ks⟩ := facts3 hb1
 clear hb1
 obtain ⟨c0,c1,f0,f1⟩ := k2.two
 go_wp2_with fail
 refine (check_ok _ (Bs.pack m) M _ (HT.out.later kb) (by omega) (by rw [hm.out]; exact Bs.pack_right m)).mono ?_
 rintro e w2 ⟨rfl,hb2⟩
 have q1 := k1.later hb2
 have q2 := k2.later hb2
 have q3 := k3.later hb2
 have qb := kb.trans (hb2.mono (by omega))
 have qs := hb2.size
 clear k1 k2 k3 kb hb2 c0 c1 f0 f1
 obtain ⟨c0,c1,f0,f1⟩ := q1.two
 obtain ⟨d0,d1,g0,g1⟩ := q2.two
 have HX : Hid (∀ (i : Nat) (wx : World),i < M -> Below w2.heap.size w2 wx -> Calls Tryz.prog 98 (#[.int .i64 (i : Int)] ++ #[.pointer (some ⟨w.heap.size + 1,0,none⟩)]) wx fun e w' => e = .returned (.int .u8 (((fun (i : Nat) => m[i]?.getD false) i).toNat : Int)) /\ Below wx.heap.size wx w') := by
  intro i wx hi hb
  refine (joinBit (w.heap.size + 1) a2 len2 cap2 (M : Int) m i wx (q2.later hb) ((HT.out.later qb).later hb) (by rw [<- hm.out]; exact hi) (by rw [<- hm.out]; omega)).mono ?_
  rintro e w' ⟨rfl,rfl⟩
  exact ⟨rfl,Below.refl _ _⟩
 have Q2 := LH q2
 go_wp2_with fail
 refine (ext_is 98 Tryz.call98 _ l (fun i => m[i]?.getD false) _ _ a len cap N M w2 (HS.out.later qb) hl hN hM rfl rfl HX).mono ?_
 clear HX c0 c1 f0 f1 d0 d1 g0 g1 Q2
 rw [hm.out,more_all,<- HLL.out]
 rintro e w3 ⟨g,n,rfl,hn,hg,hh,hb3⟩
 have HH := LH hh
 have HM := LH hn
 have k4 := q3.later hb3
 have kb4 := qb.trans (hb3.mono (by omega))
 clear hh hn q1 q2 q3 qb hb3
 obtain ⟨c0,c1,f0,f1⟩ := k4.two
 go_wp2
 refine bodyPost_ret (v := .tuple #[.agg #[.slice (some ⟨g,0,none⟩) n n,.int .i64 (L.length : Int)],.int .i64 0]) (by simp [results,Tryz.results58,go_sem,c0,c1]) rfl ⟨g,n,rfl,HM.out,by omega,?_,set2_below kb4 _ (by omega) _ _⟩
 exact Has.set (Has.set HH.out (by show g ≠ w.heap.size + 1 + 1; omega) _) (by show g ≠ w.heap.size + 1 + 1; omega) _
end
section
open Go.RowKit
theorem newE_fixL : newE (Hd.zz If.fixL) = 0 := by decide +kernel
theorem newE_fixD : newE (Hd.zz If.fixD) = 0 := by decide +kernel
end
section
open Go.RowKit
def Ftabs (K : Nat -> Prop) (w : World) (r : Rv) : Prop := (r.lv = .pointer none) ∨ (TbK K w r.lv If.fixL /\ TbK K w r.dv If.fixD)
theorem Ftabs.fr {K : Nat -> Prop} {w w' : World} {r : Rv} (h : Ftabs K w r) (hf : Fr K w w') : Ftabs K w' r := h.imp id (fun h => ⟨h.1.fr hf,h.2.fr hf⟩)
def Sx (K0 : Nat -> Prop) (R : Nat) (s : Value) (l : List Bool) (N most : Nat) (w : World) (r : Rv) : Prop := ∃ K,(∀ k,K0 k -> K k) /\ St K R s l N most w r /\ Ftabs K w r
theorem Out.from {K : Nat -> Prop} {w W w' : World} {c : Int} {v : Value} {S : World -> Prop} {e : Ending} (hf : Fr K w W) (h : Out K W c v S e w') : Out K w c v S e w' := ⟨hf.trans h.1,h.2⟩
end
section
open Go.RowKit
namespace Hd
theorem runs_len {ls : List Nat} {l : List Bool} {n : Nat} : ∀ (k : Nat) (acc : List Nat) (p : Nat),acc.length <= n -> n - acc.length < k -> (runs ls l n k acc p).2.2 = 0 -> (runs ls l n k acc p).1.length = n := by
 intro k
 induction k with
 | zero => intro acc p _ h; omega
 | succ k ih =>
  intro acc p h1 h2 h3
  simp only [runs] at h3 ⊢
  by_cases a1 : n <= acc.length
  ·rw [if_pos a1]; simp only; omega
  rw [if_neg a1] at h3 ⊢
  by_cases a2 : (rd ls l p).2.2 ≠ 0
  ·rw [if_pos a2] at h3; exact absurd h3 a2
  rw [if_neg a2] at h3 ⊢
  by_cases a3 : l.length < (rd ls l p).2.1 + ex (rd ls l p).1
  ·rw [if_pos a3] at h3; simp at h3
  rw [if_neg a3] at h3 ⊢
  generalize ht : take acc (rd ls l p).1 (num l (rd ls l p).2.1 (ex (rd ls l p).1)) n = t at h3 ⊢
  obtain ⟨x,c⟩ := t
  by_cases a4 : c ≠ 0
  ·rw [if_pos a4] at h3; exact absurd h3 a4
  rw [if_neg a4] at h3 ⊢
  have hc : c = 0 := by simpa using a4
  subst hc
  have hl := take_length ht
  exact ih x _ hl.2 (by omega) h3
theorem head_lens {l : List Bool} {p q : Nat} {lit dist : List Nat} (h : head l p = (lit,dist,q,0)) : 257 <= lit.length /\ lit.length <= 286 /\ 1 <= dist.length /\ dist.length <= 30 := by
 unfold head at h
 by_cases a1 : l.length < p + 10
 ·rw [if_pos a1] at h; simp at h
 rw [if_neg a1] at h
 by_cases a2 : 286 < num l p 5 + 257 ∨ 30 < num l (p + 5) 5 + 1
 ·rw [if_pos a2] at h; simp at h
 rw [if_neg a2] at h
 by_cases a3 : l.length < p + 14
 ·rw [if_pos a3] at h; simp at h
 rw [if_neg a3] at h
 by_cases a4 : l.length < p + 14 + 3 * (num l (p + 10) 4 + 4)
 ·rw [if_pos a4] at h; simp at h
 rw [if_neg a4] at h
 by_cases a5 : newE (zz (cl l (p + 14) (num l (p + 10) 4 + 4))) ≠ 0
 ·rw [if_pos a5] at h
  have h1 := (Prod.mk.inj (Prod.mk.inj (Prod.mk.inj h).2).2).2
  exact absurd h1 a5
 rw [if_neg a5] at h
 have hr := @runs_len (cl l (p + 14) (num l (p + 10) 4 + 4)) l (num l p 5 + 257 + (num l (p + 5) 5 + 1)) 400 [] (p + 14 + 3 * (num l (p + 10) 4 + 4)) (by simp) (by simp; omega)
 generalize runs (cl l (p + 14) (num l (p + 10) 4 + 4)) l (num l p 5 + 257 + (num l (p + 5) 5 + 1)) 400 [] (p + 14 + 3 * (num l (p + 10) 4 + 4)) = r at h hr
 by_cases a6 : r.2.2 ≠ 0
 ·rw [if_pos a6] at h
  have h1 := (Prod.mk.inj (Prod.mk.inj (Prod.mk.inj h).2).2).2
  exact absurd h1 a6
 rw [if_neg a6] at h
 have hr := hr (by simpa using a6)
 obtain ⟨h1,h2⟩ := Prod.mk.inj h
 obtain ⟨h2,_⟩ := Prod.mk.inj h2
 subst h1 h2
 rw [List.length_take,List.length_drop,hr]
 omega
end Hd
namespace If
end If
end
section
open Go.RowKit
theorem Sx.place {K : Nat -> Prop} {R : Nat} {s : Value} {l : List Bool} {N most : Nat} {w : World} {r : Rv} (h : Sx K R s l N most w r) : placeOf R w = r.p := by obtain ⟨_,_,h,_⟩ := h; exact h.place
theorem Sx.pn {K : Nat -> Prop} {R : Nat} {s : Value} {l : List Bool} {N most : Nat} {w : World} {r : Rv} (h : Sx K R s l N most w r) : r.p <= N := by obtain ⟨_,_,h,_⟩ := h; exact h.pn
theorem Sx.lt {K : Nat -> Prop} {R : Nat} {s : Value} {l : List Bool} {N most : Nat} {w : World} {r : Rv} (h : Sx K R s l N most w r) : ∀ k,K k -> k < w.heap.size := by obtain ⟨_,h1,h,_⟩ := h; exact fun k hk => h.lt k (h1 k hk)
namespace If
end If
end
end Go.Proofs.YtmgpcbjciioiaaaGreatDoor
