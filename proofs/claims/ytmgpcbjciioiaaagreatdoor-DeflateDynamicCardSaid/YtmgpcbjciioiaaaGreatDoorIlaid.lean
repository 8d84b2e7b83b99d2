import Derived.Test.YtmgpcbjciioiaaaGreatDoorKlen
import Derived.Test.YtmgpcbjciioiaaaGreatDoorLsym3
import Derived.Test.YtmgpcbjciioiaaaGreatDoorWruns
import Derived.Test.YtmgpcbjciioiaaaGreatDoorIstow
import Derived.Deep.RegionLawGrows
import Derived.ChangeSame
import Derived.ChangeVars
import Derived.JoinedOf
import Derived.LaidLaws
import Derived.LaidHandle
import Derived.LaidMore
import Derived.OpenShut
import Derived.Stop.Joined
namespace Go.Proofs.YtmgpcbjciioiaaaGreatDoor.Ls
set_option maxRecDepth 100000
set_option maxHeartbeats 8000000
section
open Go.RowKit
theorem insertion_to (g cap n a b : Nat) (kf : Nat -> Nat) (p : Nat -> Prop) (d : Nat -> Nat) (w : World) (hr : Rw w g n d) (hn : n <= 288) (hbn : b <= n) (hab : a <= 288) (hris : St.Ris kf d n) (hp : ∀ i,i < n -> p (d i)) (hcmp : Cmps g kf p w) (A B : Int) (hA : A = (a : Int)) (hB : B = (b : Int)) :
  Calls Tryz.prog 221 #[.slice (some ⟨g,0,none⟩) n cap,.int .i64 A,.int .i64 B,.func (.func 189) #[] #[]] w (SortPost g n w (SortIs kf n d a b)) := by
 subst hA hB
 exact insertion_any g cap n a b kf p d w hr hn hbn hab hris hp hcmp
theorem sym_to (g cap n a m b : Nat) (kf : Nat -> Nat) (p : Nat -> Prop) (d : Nat -> Nat) (w : World) (hr : Rw w g n d) (hn : n <= 288) (ham : a < m) (hmb : m < b) (hbn : b <= n) (h1 : St.Srt kf d a m) (h2 : St.Srt kf d m b) (hris : St.Ris kf d n) (hp : ∀ i,i < n -> p (d i)) (hcmp : Cmps g kf p w) (A M B : Int) (hA : A = (a : Int)) (hM : M = (m : Int)) (hB : B = (b : Int)) :
  Calls Tryz.prog 222 #[.slice (some ⟨g,0,none⟩) n cap,.int .i64 A,.int .i64 M,.int .i64 B,.func (.func 189) #[] #[]] w (SortPost g n w (SortIs kf n d a b)) := by
 subst hA hM hB
 exact sym_any g cap n kf p hn (b - a) a m b d w (Nat.le_refl _) ham hmb hbn hr h1 h2 hris hp hcmp
theorem stable_any (g cap n : Nat) (kf : Nat -> Nat) (p : Nat -> Prop) (d : Nat -> Nat) (w : World) (hr : Rw w g n d) (hn : n <= 288) (hris : St.Ris kf d n) (hp : ∀ i,i < n -> p (d i)) (hcmp : Cmps g kf p w) :
  Calls Tryz.prog 204 #[.slice (some ⟨g,0,none⟩) n cap,.int .i64 (n : Int),.func (.func 189) #[] #[]] w (SortPost g n w (SortIs kf n d 0 n)) := by
 have HR := LH hr
 have HC := LH hcmp
 have HP := LH hp
 have HI := LH hris
 clear hr hcmp hp hris
 go_enter Tryz.func204,Tryz.ntmps204
 go_wp2
 go_loopw [7,8] (fun s7 s8 wr => ∃ (a : Nat) (e : Nat -> Nat),a <= n /\ s7 = .int .i64 a /\ s8 = .int .i64 ((a : Int) + 20) /\ Hid (Ph1 kf n d a e) /\ Hid (Rw wr g n e) /\ Hid (Only g w wr)) (fun s _ _ => n - (intOf s).toNat)
 case atStart => exact ⟨0,d,by omega,by go_num,by go_num,Ph1.start HI.out,HR,Only.refl _ _⟩
 case round =>
  obtain ⟨a,e,ha,rfl,rfl,KI,KR,KO⟩ := hrel
  by_cases hlt : a + 20 <= n
  ·go_wp2_with fail
   refine (insertion_to g cap n a (a + 20) kf p e wr KR.out hn hlt (by omega) KI.out.2.2.1 (KI.out.2.1.all (Nat.le_refl _) p HP.out) (HC.out.later KO.out) _ _ rfl (by go_num)).mono ?_
   rintro e2 w2 ⟨rfl,d2,hr2,ho2,hs2⟩
   have Z1 := LH hr2
   have Z2 := LH (KO.out.trans ho2)
   have Z3 := LH hs2
   clear hr2 ho2 hs2
   go_wp2_with fail
   go_roundw
   case rel => exact ⟨a + 20,d2,hlt,by go_num,by go_num,KI.out.step Z3.out hlt,Z1,Z2⟩
   case measure => simp [intOf]; omega
  ·go_wp2_with fail
   refine (insertion_to g cap n a n kf p e wr KR.out hn (Nat.le_refl _) (by omega) KI.out.2.2.1 (KI.out.2.1.all (Nat.le_refl _) p HP.out) (HC.out.later KO.out) _ _ rfl rfl).mono ?_
   rintro e2 w2 ⟨rfl,d2,hr2,ho2,hs2⟩
   have Z1 := LH hr2
   have Z2 := LH (KO.out.trans ho2)
   have Z3 : Hid (Ph2 kf n d 20 d2) := KI.out.done hs2
   clear hr2 ho2 hs2 KR KO KI
   go_wp2_with fail
   go_loopw [6,7,8,9] (fun s6 _ _ _ wr => ∃ (bs : Nat) (e : Nat -> Nat),Hid (Siz bs) /\ s6 = .int .i64 bs /\ Hid (Ph2 kf n d bs e) /\ Hid (Rw wr g n e) /\ Hid (Only g w wr)) (fun s _ _ _ _ => n - (intOf s).toNat)
   case atStart => exact ⟨20,d2,Or.inl rfl,by go_num,Z3,Z1,Z2⟩
   case round =>
    clear Z1 Z2 Z3
    obtain ⟨bs,e,hbs,rfl,KI,KR,KO⟩ := hrel
    have hb0 : 20 <= bs := by have := hbs.out; unfold Siz at this; omega
    have hb1 : bs <= 320 := by have := hbs.out; unfold Siz at this; omega
    by_cases hlt : bs < n
    ·have hb2 : Hid (Siz (2 * bs)) := by have h := hbs.out; show Siz _; unfold Siz at h ⊢; omega
     go_wp2_with fail
     go_loopw [7,8] (fun s7 s8 wx => ∃ (a : Nat) (e : Nat -> Nat),a <= n /\ s7 = .int .i64 a /\ s8 = .int .i64 ((a : Int) + 2 * (bs : Int)) /\ Hid (Ph3 kf n d bs a e) /\ Hid (Rw wx g n e) /\ Hid (Only g w wx)) (fun s _ _ => n - (intOf s).toNat)
     case atStart => exact ⟨0,e,by omega,by go_num,by go_num,KI.out.start,KR,KO⟩
     case round =>
      clear KI KR KO
      obtain ⟨a,e3,ha,rfl,rfl,KI,KR,KO⟩ := hrel
      by_cases hlt3 : a + 2 * bs <= n
      ·go_wp2_with fail
       refine (sym_to g cap n a (a + bs) (a + 2 * bs) kf p e3 _ KR.out hn (by omega) (by omega) hlt3 (KI.out.left (Nat.le_refl _) (by omega)) (KI.out.right (Nat.le_refl _) hlt3) KI.out.2.2.1 (KI.out.2.1.all (Nat.le_refl _) p HP.out) (HC.out.later KO.out) _ _ _ rfl (by go_num) (by go_num)).mono ?_
       rintro e4 w4 ⟨rfl,d4,hr4,ho4,hs4⟩
       have Z1 := LH hr4
       have Z2 := LH (KO.out.trans ho4)
       have Z3 := LH hs4
       clear hr4 ho4 hs4
       go_wp2_with fail
       go_roundw
       case rel => exact ⟨a + 2 * bs,d4,hlt3,by go_num,by go_num,KI.out.step (by omega) Z3.out hlt3,Z1,Z2⟩
       case measure => simp [intOf]; omega
      ·by_cases hm : a + bs < n
       ·go_wp2_with fail
        refine (sym_to g cap n a (a + bs) n kf p e3 _ KR.out hn (by omega) hm (Nat.le_refl _) (KI.out.left (Nat.le_refl _) (by omega)) (KI.out.right (by omega) (Nat.le_refl _)) KI.out.2.2.1 (KI.out.2.1.all (Nat.le_refl _) p HP.out) (HC.out.later KO.out) _ _ _ rfl (by go_num) rfl).mono ?_
        rintro e4 w4 ⟨rfl,d4,hr4,ho4,hs4⟩
        have Z1 := LH hr4
        have Z2 := LH (KO.out.trans ho4)
        have Z3 := LH hs4
        clear hr4 ho4 hs4
        go_wp2_with fail
        go_roundw
        case rel => exact ⟨2 * bs,d4,hb2,by go_num,KI.out.done (by omega) Z3.out,Z1,Z2⟩
        case measure => simp [intOf]; omega
       ·go_wp2_with fail
        go_roundw
        case rel => exact ⟨2 * bs,e3,hb2,by go_num,KI.out.done (by omega) (KI.out.same (by omega)),KR,KO⟩
        case measure => simp [intOf]; omega
    ·go_wp2_with fail
     go_end0
     exact ⟨rfl,_,KR.out,KO.out,KI.out.done (by omega)⟩
end
section
open Go.RowKit
def Pk (w : World) : Lm.Tr -> Nat -> Prop
 | .leaf x s,b => Has w b (.cells #[.int .i64 (x : Int),.int .i64 (s : Int),.pointer none,.pointer none] 252 (0,0))
 | .node x y,b => ∃ p q,Has w b (.cells #[.int .i64 ((x.wt + y.wt : Nat) : Int),.int .i64 0,.pointer (some ⟨p,0,none⟩),.pointer (some ⟨q,0,none⟩)] 252 (0,0)) /\ Pk w x p /\ Pk w y q
theorem Pk.has {w : World} {t : Lm.Tr} {b : Nat} (h : Pk w t b) : ∃ s p q,Has w b (.cells #[.int .i64 (t.wt : Int),s,p,q] 252 (0,0)) := by
 cases t with
 | leaf x s => exact ⟨_,_,_,h⟩
 | node x y => obtain ⟨p,q,h,_⟩ := h; exact ⟨_,_,_,h⟩
theorem Pk.lt {w : World} {t : Lm.Tr} {b : Nat} (h : Pk w t b) : b < w.heap.size := by obtain ⟨s,p,q,h⟩ := h.has; exact h.lt
theorem Pk.wt {w : World} {t : Lm.Tr} {b : Nat} (h : Pk w t b) : w.cell? ⟨b,0,none⟩ = some (.int .i64 (t.wt : Int)) := by obtain ⟨s,p,q,h⟩ := h.has; rw [h.cell]; rfl
theorem Pk.later {w w' : World} (hb : Below w.heap.size w w') : ∀ {t : Lm.Tr} {b : Nat},Pk w t b -> Pk w' t b
 | .leaf x s,b,h => Has.later h hb
 | .node x y,b,h => by
  obtain ⟨p,q,h,hx,hy⟩ := h
  exact ⟨p,q,h.later hb,Pk.later hb hx,Pk.later hb hy⟩
theorem Pk.keep {w w' : World} (hk : ∀ b cs,Has w b (.cells cs 252 (0,0)) -> Has w' b (.cells cs 252 (0,0))) : ∀ {t : Lm.Tr} {b : Nat},Pk w t b -> Pk w' t b
 | .leaf x s,b,h => hk _ _ h
 | .node x y,b,h => by
  obtain ⟨p,q,h,hx,hy⟩ := h
  exact ⟨p,q,hk _ _ h,Pk.keep hk hx,Pk.keep hk hy⟩
theorem _root_.Go.Proofs.YtmgpcbjciioiaaaGreatDoor.Has.apart {w : World} {b c : Nat} {xs ys : Array Value} {t u : TypeId} {f g : Nat × Nat} (h : Has w b (.cells xs t f)) (k : Has w c (.cells ys u g)) (hne : t ≠ u) : b ≠ c := by
 rintro rfl
 have e : some (Obj.cells xs t f) = some (Obj.cells ys u g) := Eq.trans (Eq.symm h) k
 simp only [Option.some.injEq,Obj.cells.injEq] at e
 exact hne e.2.1
theorem Pk.only {w w' : World} {c : Nat} {ys : Array Value} {u : TypeId} {g : Nat × Nat} (k : Has w c (.cells ys u g)) (hne : 252 ≠ u) (ho : Only c w w') {t : Lm.Tr} {b : Nat} (h : Pk w t b) : Pk w' t b :=
 h.keep fun _ _ h => Has.only h ho (h.apart k hne)
def Pl (w : World) (s : Value) (ts : List Lm.Tr) : Prop :=
 ∃ a len cap,s = .slice a len cap /\ len = ts.length /\ len <= cap /\ len <= 1024 /\ (a = none -> len = 0 /\ cap = 0) /\
  (0 < len -> ∃ b off,a = some ⟨b,off,none⟩ /\ b < w.heap.size /\ ∀ i t,ts[i]? = some t -> ∃ p,w.cell? ⟨b,off + i,none⟩ = some (.pointer (some ⟨p,0,none⟩)) /\ Pk w t p)
theorem Pl.later {w w' : World} {s : Value} {ts : List Lm.Tr} (h : Pl w s ts) (hb : Below w.heap.size w w') : Pl w' s ts := by
 obtain ⟨a,len,cap,rfl,h1,h2,h3,h4,h5⟩ := h
 refine ⟨a,len,cap,rfl,h1,h2,h3,h4,fun hl => ?_⟩
 obtain ⟨b,off,rfl,hlt,hc⟩ := h5 hl
 refine ⟨b,off,rfl,Nat.lt_of_lt_of_le hlt hb.size,fun i t hi => ?_⟩
 obtain ⟨p,hp,hk⟩ := hc i t hi
 exact ⟨p,by rw [hb.cell (p := ⟨b,off + i,none⟩) hlt]; exact hp,hk.later hb⟩
theorem Pl.shape {w : World} {s : Value} {ts : List Lm.Tr} (h : Pl w s ts) : ∃ a cap,s = .slice a ts.length cap /\ ts.length <= cap /\ ts.length <= 1024 := by
 obtain ⟨a,len,cap,rfl,rfl,h2,h3,_⟩ := h
 exact ⟨a,cap,rfl,h2,h3⟩
theorem Pl.nil (w : World) : Pl w (.slice none 0 0) [] := ⟨none,0,0,rfl,rfl,by omega,by omega,fun _ => ⟨rfl,rfl⟩,fun h => absurd h (by omega)⟩
theorem Pl.head {w : World} {a : Option Addr} {n cap : Nat} {t : Lm.Tr} {ts : List Lm.Tr} (h : Pl w (.slice a n cap) (t :: ts)) :
  ∃ b off p,a = some ⟨b,off,none⟩ /\ b < w.heap.size /\ w.cell? ⟨b,off,none⟩ = some (.pointer (some ⟨p,0,none⟩)) /\ Pk w t p /\ n <= cap /\ (cap = 1 -> Pl w (.slice (some ⟨b,off,none⟩) ts.length (cap - 1)) ts) /\ Pl w (.slice (some ⟨b,off + 1,none⟩) ts.length (cap - 1)) ts := by
 obtain ⟨a',len,cap',e,h1,h2,h3,h4,h5⟩ := h
 cases e
 simp only [List.length_cons] at h1
 obtain ⟨b,off,rfl,hlt,hc⟩ := h5 (by omega)
 obtain ⟨p,hp,hk⟩ := hc 0 t rfl
 refine ⟨b,off,p,rfl,hlt,hp,hk,h2,fun e => ⟨_,ts.length,cap - 1,rfl,rfl,by omega,by omega,fun h => by simp at h,fun h0 => by omega⟩,_,ts.length,cap - 1,rfl,rfl,by omega,by omega,fun h => by simp at h,fun _ => ⟨b,off + 1,rfl,hlt,fun i u hi => ?_⟩⟩
 have := hc (i + 1) u (by rw [List.getElem?_cons_succ]; exact hi)
 rwa [show off + (i + 1) = off + 1 + i by omega] at this
theorem Pl.take {w : World} {a : Option Addr} {n cap : Nat} {ts : List Lm.Tr} (h : Pl w (.slice a n cap) ts) (m : Nat) (hm : m <= ts.length) : Pl w (.slice a m cap) (ts.take m) := by
 obtain ⟨a',len,cap',e,h1,h2,h3,h4,h5⟩ := h
 cases e
 refine ⟨a,m,cap,rfl,by rw [List.length_take]; omega,by omega,by omega,fun e => by have := h4 e; omega,fun h0 => ?_⟩
 obtain ⟨b,off,rfl,hlt,hc⟩ := h5 (by omega)
 refine ⟨b,off,rfl,hlt,fun i t hi => hc i t ?_⟩
 have := (List.getElem?_eq_some_iff.1 hi).1
 rw [List.length_take] at this
 rwa [List.getElem?_take_of_lt (by omega)] at hi
def vp (bs : List Nat) : List Value := bs.map fun b => Value.pointer (some ⟨b,0,none⟩)
theorem vp_length (bs : List Nat) : (vp bs).length = bs.length := by simp [vp]
theorem vp_snoc (bs : List Nat) (b : Nat) : vp (bs ++ [b]) = vp bs ++ [.pointer (some ⟨b,0,none⟩)] := by simp [vp]
theorem Tryz.infoPack : (Tryz.prog.info? 209).map (fun i => (i.zero,i.size,i.bytes)) = some (some (.pointer none),1,8) := by kernel_rfl
theorem run_app1 (t e : TypeId) (z : Value) (hu : Tryz.prog.underlying t = some (.slice e)) (hinf : (Tryz.prog.info? e).map (fun i => (i.zero,i.size,i.bytes)) = some (some z,1,8)) (hz : z.cells.size = 1)
  {w : World} {base n : Nat} {v : Value} {xs : List Value} (ty : TypeId) (hown : w.ownsRow base e 1 v n xs) (g : Nat) (x : Value) (hx : x.oneCell' = true) (hc : w.cell? ⟨g,0,none⟩ = some x) (h1 : n + 1 <= 1000000) (hb : base <= w.heap.size) :
  ∃ v' w',(Builtin.append_ #[t,t] ty #[v,.slice (some ⟨g,0,none⟩) 1 1]).run Tryz.prog w = .ok v' w' /\ w'.ownsRow base e 1 v' (n + 1) (xs ++ [x]) /\ w.grownBy w' v.ownBlock := by
 obtain ⟨i0,hi,hz0,hz1,hz2⟩ := info_parts hinf
 obtain ⟨v',w',h1,h2,h3,_⟩ := run_append_own (P := Tryz.prog) (w := w) base t ty e i0 z 1 8 hu hi hz0 hz1 hz2 hz (by decide) v n xs hown ⟨g,0,none⟩ 1 1 [x] rfl
  (fun j u hj => by
   match j,hj with
   | 0,hj =>
    simp at hj
    subst hj
    simpa [Addr.add] using hc)
  (fun u hu => by simp at hu; subst hu; exact hx) (by unfold maxLen; omega) (by omega) hb
 exact ⟨v',w',h1,h2,h3⟩
theorem wpList_append_known {P : Program} {w : World} {ops : Array Oper} {rest : List Oper} {o : Oper} {a : Act} {Q : Exit -> Act -> World -> Prop} (hgd : o.guard = none) (s x : Operand) (t : TypeId)
  (hop : o.op = Op.call { callee := Callee.builtin Builtin.append,args := #[s,x],argTypes := #[t,t] }) (S X v : Value) (w' : World) (hs : a.eval s = S) (hx : a.eval x = X)
  (hrun : (Builtin.append_ #[t,t] o.type #[S,X]).run P w = .ok v w') (h : wpList P ops Q rest (a.put o.dst v) w') : wpList P ops Q (o :: rest) a w :=
 wpList_plain hgd fun K hK => by
  unfold Oper.wp
  simp [execOp,hop,resolve,invoke,builtin,hs,hx,hrun,Result.andThen]
  exact hK _ _ h
theorem step_append_known {ops : Array Oper} {o : Oper} {a : Act} {w : World} {K : Act -> World -> Prop} {Q : Exit -> Act -> World -> Prop} {E : Prop}
  (hg : o.guard = none) (s x : Operand) (t : TypeId) (hop : o.op = Op.call { callee := Callee.builtin Builtin.append,args := #[s,x],argTypes := #[t,t] })
  (S X v : Value) (w' : World) (hs : a.eval s = S) (hx : a.eval x = X) (hrun : (Builtin.append_ #[t,t] o.type #[S,X]).run Tryz.prog w = .ok v w') (hK : K (a.put o.dst v) w') :
  if Region.wanted o (yielded ops a.tmps) = true then Oper.wp Tryz.prog o a w K Q else E := by
 have hw : Region.wanted o (yielded ops a.tmps) = true := by simp [Region.wanted,hg]
 rw [if_pos hw]
 unfold Oper.wp
 simp [execOp,hop,resolve,invoke,builtin,hs,hx,hrun,Result.andThen]
 exact hK
theorem own_ne_type {w : World} {base n b : Nat} {v : Value} {e : TypeId} {xs : List Value} {cs : Array Value} {fr : Nat × Nat} {t : TypeId} (h : w.ownsRow base e 1 v n xs) (hb : Has w b (.cells cs t fr)) (ht : t ≠ e) : v.ownBlock ≠ some b := by
 rcases h.2 with ⟨rfl,_⟩ | ⟨g,cap,cur,rfl,_,hg,_⟩
 ·simp [Value.ownBlock]
 ·intro e'
  simp only [Value.ownBlock,Option.some.injEq] at e'
  subst e'
  have hb' : w.heap[g]? = some (.cells cs t fr) := hb
  rw [hg] at hb'
  simp only [Option.some.injEq,Obj.cells.injEq] at hb'
  exact ht hb'.2.1.symm
theorem own_slice {w : World} {base : Nat} {e : TypeId} {size : Nat} {v : Value} {n : Nat} {xs : List Value} (h : w.ownsRow base e size v n xs) : ∃ a cap,v = .slice a n cap := by
 rcases h.2 with ⟨rfl,rfl⟩ | ⟨g,cap,cur,rfl,_⟩
 ·exact ⟨_,_,rfl⟩
 ·exact ⟨_,_,rfl⟩
theorem own_stays {w w' : World} {base : Nat} {e : TypeId} {size : Nat} {v : Value} {n : Nat} {xs : List Value} (h : w.ownsRow base e size v n xs) (hb : Below w.heap.size w w') : w'.ownsRow base e size v n xs := by
 obtain ⟨h1,h2⟩ := h
 refine ⟨h1,?_⟩
 rcases h2 with h | ⟨g,c,cur,h,hbg,hg,r⟩
 ·exact Or.inl h
 ·exact Or.inr ⟨g,c,cur,h,hbg,(hb.block g (lt_of_block hg)).trans hg,r⟩
theorem Pk.grown {w w' : World} {base n : Nat} {v : Value} {xs : List Value} (h : w.ownsRow base 209 1 v n xs) (hg : w.grownBy w' v.ownBlock) {t : Lm.Tr} {b : Nat} (hp : Pk w t b) : Pk w' t b :=
 hp.keep fun b _ hb => (hg.block b hb.lt (own_ne_type h hb (by decide)).symm).trans hb
end
section
open Go.RowKit
theorem sortStable_any (g cap n : Nat) (kf : Nat -> Nat) (p : Nat -> Prop) (d : Nat -> Nat) (w : World) (hr : Rw w g n d) (hn : n <= 288) (hris : St.Ris kf d n) (hp : ∀ i,i < n -> p (d i)) (hcmp : Cmps g kf p w) :
  Calls Tryz.prog 188 #[.slice (some ⟨g,0,none⟩) n cap,.func (.func 189) #[] #[]] w (SortPost g n w (SortIs kf n d 0 n)) := by
 have HC := stable_any g cap n kf p d w hr hn hris hp hcmp
 clear hr hcmp hp hris
 go_enter Tryz.func188,Tryz.ntmps188
 go_wp2_with fail
 refine HC.mono ?_
 clear HC
 rintro e w2 ⟨rfl,d2,hr2,ho2,hs2⟩
 have Z1 := LH hr2
 have Z2 := LH ho2
 have Z3 := LH hs2
 clear hr2 ho2 hs2
 go_wp2_with fail
 go_end0
 exact ⟨rfl,_,Z1.out,Z2.out,Z3.out⟩
theorem insertion_nil (F : Value) (w : World) : Calls Tryz.prog 221 #[.slice none 0 0,.int .i64 0,.int .i64 0,F] w fun e w' => e = .returned (.tuple #[]) /\ w = w' := by
 go_enter Tryz.func221,Tryz.ntmps221
 go_wp2
 refine wp_loop_rounds 1 ?_
 rw [rounds_succ]
 go_wp2
 go_end0
 exact ⟨rfl,rfl⟩
theorem stable_nil (F : Value) (w : World) : Calls Tryz.prog 204 #[.slice none 0 0,.int .i64 0,F] w fun e w' => e = .returned (.tuple #[]) /\ w = w' := by
 go_enter Tryz.func204,Tryz.ntmps204
 go_wp2
 refine wp_loop_rounds 1 ?_
 rw [rounds_succ]
 go_wp2_with (go_at_call 221; refine (insertion_nil _ _).mono ?_; rintro e w' ⟨rfl,rfl⟩)
 refine wp_loop_rounds 1 ?_
 rw [rounds_succ]
 go_wp2
 go_end0
 exact ⟨rfl,rfl⟩
theorem sortStable_nil (F : Value) (w : World) : Calls Tryz.prog 188 #[.slice none 0 0,F] w fun e w' => e = .returned (.tuple #[]) /\ w = w' := by
 go_enter Tryz.func188,Tryz.ntmps188
 go_wp2_with (go_at_call 204; refine (stable_nil _ _).mono ?_; rintro e w' ⟨rfl,rfl⟩)
 go_end0
 exact ⟨rfl,rfl⟩
end
section
open Go.RowKit
def Nums (zs : List Int) : Prop := 0 < zs.length /\ zs.length <= 288 /\ ∀ i,i < zs.length -> 0 <= zs[i]?.getD 0 /\ zs[i]?.getD 0 <= 4294967295
instance (zs : List Int) : Decidable (Nums zs) := by unfold Nums; infer_instance
def Badn (z : Int) : Prop := z < 0 ∨ 4294967295 < z
theorem badn_yes (z : Int) (hz : Badn z) (w : World) : Calls Tryz.prog 187 #[.int .i64 z] w fun e w' => e = .returned (.bool true) /\ w = w' := by
 by_cases h : z < 0
 ·have h1 : decide (z < 0) = true := by simpa using h
  clear hz
  go_enter Tryz.func187,Tryz.ntmps187
  go_wp2
  go_ret
  exact ⟨rfl,rfl⟩
 ·have h1 : decide (z < 0) = false := by simpa using h
  have h2 : 4294967295 < z := hz.resolve_left h
  have h3 : decide (4294967295 < z) = true := by simpa using h2
  clear hz
  go_enter Tryz.func187,Tryz.ntmps187
  go_wp2
  go_ret
  exact ⟨rfl,rfl⟩
theorem badn_no (z : Int) (hz : ¬ Badn z) (w : World) : Calls Tryz.prog 187 #[.int .i64 z] w fun e w' => e = .returned (.bool false) /\ w = w' := by
 have g1 : ¬ z < 0 := fun h => hz (Or.inl h)
 have g2 : ¬ 4294967295 < z := fun h => hz (Or.inr h)
 have h1 : decide (z < 0) = false := by simpa using g1
 have h3 : decide (4294967295 < z) = false := by simpa using g2
 clear hz
 go_enter Tryz.func187,Tryz.ntmps187
 go_wp2
 go_ret
 exact ⟨rfl,rfl⟩
def IdxPostN (zs : List Int) (w : World) (e : Ending) (w' : World) : Prop := ∃ r : Int,e = .returned (.int .i64 r) /\ w = w' /\ ((0 <= r /\ ∃ i,i < zs.length /\ Badn (zs[i]?.getD 0)) ∨ (r = -1 /\ ∀ i,i < zs.length -> ¬ Badn (zs[i]?.getD 0)))
theorem indexn_any (zs : List Int) (s : Value) (w : World) (hz : Zl w s zs) : Calls Tryz.prog 156 #[s,.func (.func 187) #[] #[]] w (IdxPostN zs w) := by
 have HZ := LH hz
 obtain ⟨a,len,cap,rfl,h1,h2,h3,h4⟩ := hz
 have H1 := LH h1
 have H4 := LH h4
 clear h1 h3 h4 HZ
 go_enter Tryz.func156,Tryz.ntmps156
 go_wp2
 go_loop [8] (fun s8 => ∃ k : Nat,k <= len /\ s8 = .int .i64 k /\ Hid (∀ i,i < k -> ¬ Badn (zs[i]?.getD 0))) (fun s => len - (intOf s).toNat)
 case atStart => exact ⟨0,Nat.zero_le _,rfl,fun i hi => by omega⟩
 case round =>
  obtain ⟨k,hk,rfl,KB⟩ := hrel
  by_cases hlt : k < len
  ·obtain ⟨b,off,rfl,_,hc⟩ := H4.out (by omega)
   have hck := hc k hlt
   obtain ⟨z,hz⟩ : ∃ z,z = zs[k]?.getD 0 := ⟨_,rfl⟩
   rw [<- hz] at hck
   have HK := LH hz
   clear hz hc
   by_cases hb : Badn z
   ·have HB := LH hb
    clear hb
    go_wp2_with (go_at_call 187; refine (badn_yes z HB.out _).mono ?_; rintro e w' ⟨rfl,rfl⟩)
    go_ret
    exact ⟨_,rfl,rfl,Or.inl ⟨by omega,k,by have := H1.out; omega,by rw [<- HK.out]; exact HB.out⟩⟩
   ·have HB := LH hb
    clear hb
    go_wp2_with (go_at_call 187; refine (badn_no z HB.out _).mono ?_; rintro e w' ⟨rfl,rfl⟩)
    go_round
    case rel =>
     refine ⟨k + 1,by omega,by go_num,?_⟩
     show ∀ i,i < k + 1 -> _
     intro i hi
     by_cases e : i = k
     ·rw [e,<- HK.out]; exact HB.out
     ·exact KB.out i (by omega)
    case measure => simp [intOf]; omega
  ·obtain rfl : k = len := by omega
   go_wp2
   go_ret
   exact ⟨_,rfl,rfl,Or.inr ⟨rfl,by rw [<- H1.out]; exact KB.out⟩⟩
theorem containsn_no (zs : List Int) (s : Value) (w : World) (hz : Zl w s zs) (hb : ∀ i,i < zs.length -> ¬ Badn (zs[i]?.getD 0)) : Calls Tryz.prog 114 #[s,.func (.func 187) #[] #[]] w fun e w' => e = .returned (.bool false) /\ w = w' := by
 have HC := indexn_any zs s w hz
 have HB := LH hb
 obtain ⟨a,len,cap,rfl,hl⟩ := hz.shape
 clear hz hb hl
 go_enter Tryz.func114,Tryz.ntmps114
 go_wp2_with fail
 refine HC.mono ?_
 clear HC
 rintro e w' ⟨r,rfl,rfl,hr⟩
 have h0 : r = -1 := by
  rcases hr with ⟨_,i,h1,h2⟩ | ⟨h,_⟩
  ·exact (HB.out i h1 h2).elim
  ·exact h
 subst h0
 clear hr
 go_wp2
 go_ret
 exact ⟨rfl,rfl⟩
theorem nums_iff (zs : List Int) (h1 : 0 < zs.length) (h2 : zs.length <= 288) : Nums zs ↔ ∀ i,i < zs.length -> ¬ Badn (zs[i]?.getD 0) := by
 unfold Nums Badn
 constructor
 ·rintro ⟨_,_,h⟩ i hi; have := h i hi; omega
 ·intro h; exact ⟨h1,h2,fun i hi => by have := h i hi; omega⟩
theorem aren_yes (zs : List Int) (s : Value) (w : World) (hz : Zl w s zs) (hv : Nums zs) : Calls Tryz.prog 152 #[s] w fun e w' => e = .returned (.bool true) /\ w = w' := by
 have HC := containsn_no zs s w hz ((nums_iff zs hv.1 hv.2.1).1 hv)
 obtain ⟨a,len,cap,rfl,hl⟩ := hz.shape
 have h1 : 0 < len := by have := hv.1; omega
 have h2 : len <= 288 := by have := hv.2.1; omega
 have h3 : ((len : Int) == 0) = false := by rw [beq_eq_false_iff_ne]; omega
 have h4 : decide (288 < (len : Int)) = false := by simp; omega
 clear hz hv hl
 go_enter Tryz.func152,Tryz.ntmps152
 go_wp2_with fail
 refine HC.mono ?_
 clear HC
 rintro e w' ⟨rfl,rfl⟩
 go_wp2
 go_ret
 exact ⟨rfl,rfl⟩
end
end Go.Proofs.YtmgpcbjciioiaaaGreatDoor.Ls
namespace Go.Proofs.YtmgpcbjciioiaaaGreatDoor
set_option maxRecDepth 100000
set_option maxHeartbeats 8000000
open Go.ChangeShapes Go.WideShapes Go.ChangeAt Go.WideElems Go.RowKit
theorem g_ord : Tryz.prog.globalNamed "valise/header.order" = some 1 := by kernel_rfl
theorem t_ord : (Tryz.prog.globals[1]?).map (·.type) = some 214 := by kernel_rfl
theorem ord_is (k : Nat) (hk : k < 19) (x : DataW Unit × List MemPlace) (xs : List (DataW Unit × List MemPlace)) (hx : xs[k]? = some x) (h : (.agg (xs.map (·.1)) : DataW Unit) = Rows.laid_valise_header_order) : x.1 = .lit (.int .i64 (Hd.ord k : Int)) := by
 unfold Rows.laid_valise_header_order at h
 injection h with h
 have h2 : (xs.map (·.1))[k]? = some x.1 := by rw [List.getElem?_map,hx]; rfl
 rw [h] at h2
 match k,hk with
 | 0,_ => exact (Option.some.inj h2).symm
 | 1,_ => exact (Option.some.inj h2).symm
 | 2,_ => exact (Option.some.inj h2).symm
 | 3,_ => exact (Option.some.inj h2).symm
 | 4,_ => exact (Option.some.inj h2).symm
 | 5,_ => exact (Option.some.inj h2).symm
 | 6,_ => exact (Option.some.inj h2).symm
 | 7,_ => exact (Option.some.inj h2).symm
 | 8,_ => exact (Option.some.inj h2).symm
 | 9,_ => exact (Option.some.inj h2).symm
 | 10,_ => exact (Option.some.inj h2).symm
 | 11,_ => exact (Option.some.inj h2).symm
 | 12,_ => exact (Option.some.inj h2).symm
 | 13,_ => exact (Option.some.inj h2).symm
 | 14,_ => exact (Option.some.inj h2).symm
 | 15,_ => exact (Option.some.inj h2).symm
 | 16,_ => exact (Option.some.inj h2).symm
 | 17,_ => exact (Option.some.inj h2).symm
 | 18,_ => exact (Option.some.inj h2).symm
end Go.Proofs.YtmgpcbjciioiaaaGreatDoor
