import Derived.Test.YtmgpcbjciioiaaaGreatDoorHsort
import Derived.BigRegion
import Derived.Deep.RegionWith
import Derived.Deep.DeepCutAuto
namespace Go.Proofs.YtmgpcbjciioiaaaGreatDoor
set_option maxRecDepth 100000
set_option maxHeartbeats 8000000
section
open Go.RowKit
structure Rw (w : World) (g n : Nat) (d : Nat -> Nat) : Prop where
 lt : g < w.heap.size
 cell : ∀ i,i < n -> w.cell? ⟨g,i,none⟩ = some (.int .i64 (d i : Int))
 free : ∀ i,i < n -> w.frozen? ⟨g,i,none⟩ = false
theorem only_drewN {g : Nat} {a w : World} (h : Only g a w) (n : Nat) : Only g a (w.drewN n) := ⟨h.os,h.tape,h.output,h.size,h.block⟩
theorem only_drew {g : Nat} {a w : World} (h : Only g a w) : Only g a w.drew := ⟨h.os,h.tape,h.output,h.size,h.block⟩
theorem Only.trans {g : Nat} {a b c : World} (h : Only g a b) (k : Only g b c) : Only g a c :=
 ⟨k.os.trans h.os,k.tape.trans h.tape,k.output.trans h.output,Nat.le_trans h.size k.size,fun i h1 h2 => (k.block i (Nat.lt_of_lt_of_le h1 h.size) h2).trans (h.block i h1 h2)⟩
theorem only_set (w : World) (g i : Nat) (v : Value) : Only g w (w.setCell ⟨g,i,none⟩ v) :=
 ⟨rfl,rfl,rfl,by simp,fun k _ hk => Below.heap_setCell w ⟨g,i,none⟩ v k hk⟩
theorem Rw.drewN {w : World} {g n : Nat} {d : Nat -> Nat} (h : Rw w g n d) (k : Nat) : Rw (w.drewN k) g n d := ⟨h.lt,h.cell,h.free⟩
theorem addr_ne (g : Nat) {i j : Nat} (h : i ≠ j) : (⟨g,i,none⟩ : Addr) ≠ ⟨g,j,none⟩ := fun e => h (by cases e; rfl)
theorem Rw.swap {w : World} {g n : Nat} {d : Nat -> Nat} (h : Rw w g n d) (i j : Nat) (hi : i < n) (hj : j < n) (hne : i ≠ j) :
  Rw ((w.setCell ⟨g,i,none⟩ (.int .i64 (d j : Int))).setCell ⟨g,j,none⟩ (.int .i64 (d i : Int))) g n (St.sw d i j) := by
 refine ⟨by simpa using h.lt,fun k hk => ?_,fun k hk => by rw [World.frozen?_setCell,World.frozen?_setCell]; exact h.free k hk⟩
 unfold St.sw
 by_cases h1 : k = j
 ·subst h1
  rw [if_neg (by omega),if_pos rfl]
  refine World.cell?_setCell_same' _ _ _ ?_
  rw [World.cell?_setCell_other _ _ _ _ (addr_ne g (by omega)),h.cell k hk]; rfl
 ·rw [World.cell?_setCell_other _ _ _ _ (addr_ne g (by omega))]
  by_cases h2 : k = i
  ·subst h2
   rw [if_pos rfl]
   exact World.cell?_setCell_same' _ _ _ (by rw [h.cell k hk]; rfl)
  ·rw [if_neg h2,if_neg h1,World.cell?_setCell_other _ _ _ _ (addr_ne g (by omega))]
   exact h.cell k hk
def SortPost (g n : Nat) (w : World) (Q : (Nat -> Nat) -> Prop) (e : Ending) (w' : World) : Prop :=
 e = .returned (.tuple #[]) /\ ∃ d',Rw w' g n d' /\ Only g w w' /\ Q d'
theorem row_exch_step {w w1 : World} {g n : Nat} {d : Nat -> Nat} {a b k : Nat} (h : Rw w1 g n (St.exch d a b k)) (ho : Only g w w1) (hab : a + k < b) (hn : b + k < n) :
  Rw (((w1.setCell ⟨g,a + k,none⟩ (.int .i64 (St.exch d a b k (b + k) : Int))).setCell ⟨g,b + k,none⟩ (.int .i64 (St.exch d a b k (a + k) : Int))).drew) g n (St.exch d a b (k + 1)) /\
   Only g w (((w1.setCell ⟨g,a + k,none⟩ (.int .i64 (St.exch d a b k (b + k) : Int))).setCell ⟨g,b + k,none⟩ (.int .i64 (St.exch d a b k (a + k) : Int))).drew) := by
 refine ⟨?_,only_drew ((ho.trans (only_set _ _ _ _)).trans (only_set _ _ _ _))⟩
 rw [St.exch_succ _ _ _ _ hab]
 exact (h.swap (a + k) (b + k) (by omega) hn (by omega)).drewN 1
theorem swapRange_any (g cap n a b m : Nat) (F : Value) (d : Nat -> Nat) (w : World) (hr : Rw w g n d) (hn : n <= 288) (hab : a + m <= b) (hbn : b + m <= n) :
  Calls Tryz.prog 234 #[.slice (some ⟨g,0,none⟩) n cap,.int .i64 (a : Int),.int .i64 (b : Int),.int .i64 (m : Int),F] w (SortPost g n w (fun d' => d' = St.exch d a b m)) := by
 have HR := LH hr
 clear hr
 go_enter Tryz.func234,Tryz.ntmps234
 go_wp2
 go_loopw [10] (fun s10 wr => ∃ k : Nat,k <= m /\ s10 = .int .i64 k /\ Hid (Rw wr g n (St.exch d a b k)) /\ Hid (Only g w wr)) (fun s _ => m - (intOf s).toNat)
 case atStart => exact ⟨0,Nat.zero_le _,rfl,by show Rw _ _ _ _; rw [St.exch_zero]; exact HR.out,Only.refl _ _⟩
 case round =>
  obtain ⟨k,hk,rfl,KR,KO⟩ := hrel
  by_cases hlt : k < m
  ·have c1 := KR.out.cell (a + k) (by omega)
   have c2 := KR.out.cell (b + k) (by omega)
   have f1 := KR.out.free (a + k) (by omega)
   have f2 := KR.out.free (b + k) (by omega)
   obtain ⟨x,hx⟩ : ∃ x,x = St.exch d a b k (a + k) := ⟨_,rfl⟩
   obtain ⟨y,hy⟩ : ∃ y,y = St.exch d a b k (b + k) := ⟨_,rfl⟩
   have st := row_exch_step KR.out KO.out (show a + k < b by omega) (show b + k < n by omega)
   rw [<- hx,<- hy] at st
   rw [<- hx] at c1
   rw [<- hy] at c2
   have ST := LH st
   have hne : ¬ a + k = b + k := by omega
   have hne2 : ¬ b + k = a + k := by omega
   clear hx hy st
   go_wp2
   go_region
   go_wp2
   all_goals
    go_roundw
    case rel => exact ⟨k + 1,by omega,by go_num,ST.out.1,ST.out.2⟩
    case measure => simp [intOf]; omega
  ·obtain rfl : k = m := by omega
   go_wp2
   go_end0
   exact ⟨rfl,_,KR.out,KO.out,rfl⟩
end
section
open Go.RowKit
def RotIs (d : Nat -> Nat) (a m b : Nat) (d' : Nat -> Nat) : Prop := d' = St.rot d a m b /\ St.Swaps a b d d'
def RotOn (d : Nat -> Nat) (a m b i j : Nat) (e : Nat -> Nat) : Prop := 0 < i /\ 0 < j /\ a + i <= m /\ m + j <= b /\ St.rot e (m - i) m (m + j) = St.rot d a m b /\ St.Swaps a b d e
theorem RotOn.start (d : Nat -> Nat) (a m b : Nat) (h1 : a < m) (h2 : m < b) : RotOn d a m b (m - a) (b - m) d :=
 ⟨by omega,by omega,by omega,by omega,by rw [show m - (m - a) = a by omega,show m + (b - m) = b by omega],.refl _⟩
theorem RotOn.big {d e : Nat -> Nat} {a m b i j : Nat} (h : RotOn d a m b i j e) (hlt : j < i) : RotOn d a m b (i - j) j (St.exch e (m - i) m j) := by
 obtain ⟨h1,h2,h3,h4,h5,h6⟩ := h
 refine ⟨by omega,h2,by omega,h4,?_,h6.trans (St.exch_swaps _ _ _ _ _ _ (by omega) (by omega) (by omega))⟩
 rw [show m - (i - j) = m - i + j by omega,St.rot_big e m i j (by omega) hlt]; exact h5
theorem RotOn.less {d e : Nat -> Nat} {a m b i j : Nat} (h : RotOn d a m b i j e) (hlt : i < j) : RotOn d a m b i (j - i) (St.exch e (m - i) (m + j - i) i) := by
 obtain ⟨h1,h2,h3,h4,h5,h6⟩ := h
 refine ⟨h1,by omega,h3,by omega,?_,h6.trans (St.exch_swaps _ _ _ _ _ _ (by omega) (by omega) (by omega))⟩
 rw [show m + (j - i) = m + j - i by omega,St.rot_less e m i j (by omega) hlt]; exact h5
theorem RotOn.done {d e : Nat -> Nat} {a m b i : Nat} (h : RotOn d a m b i i e) : RotIs d a m b (St.exch e (m - i) m i) := by
 obtain ⟨h1,h2,h3,h4,h5,h6⟩ := h
 refine ⟨?_,h6.trans (St.exch_swaps _ _ _ _ _ _ (by omega) (by omega) (by omega))⟩
 rw [St.rot_same e m i (by omega)]; exact h5
theorem swapRange_to (g cap n a b m : Nat) (F : Value) (d : Nat -> Nat) (w : World) (hr : Rw w g n d) (hn : n <= 288) (hab : a + m <= b) (hbn : b + m <= n) (A B M : Int) (hA : A = (a : Int)) (hB : B = (b : Int)) (hM : M = (m : Int)) :
  Calls Tryz.prog 234 #[.slice (some ⟨g,0,none⟩) n cap,.int .i64 A,.int .i64 B,.int .i64 M,F] w (SortPost g n w (fun d' => d' = St.exch d a b m)) := by
 subst hA hB hM
 exact swapRange_any g cap n a b m F d w hr hn hab hbn
theorem rotate_any (g cap n a m b : Nat) (F : Value) (d : Nat -> Nat) (w : World) (hr : Rw w g n d) (hn : n <= 288) (ham : a < m) (hmb : m < b) (hbn : b <= n) :
  Calls Tryz.prog 233 #[.slice (some ⟨g,0,none⟩) n cap,.int .i64 (a : Int),.int .i64 (m : Int),.int .i64 (b : Int),F] w (SortPost g n w (RotIs d a m b)) := by
 have HR := LH hr
 clear hr
 go_enter Tryz.func233,Tryz.ntmps233
 go_wp2
 go_loopw [10,11] (fun s10 s11 wr => ∃ (i j : Nat) (e : Nat -> Nat),s10 = .int .i64 i /\ s11 = .int .i64 j /\ Hid (RotOn d a m b i j e) /\ Hid (Rw wr g n e) /\ Hid (Only g w wr)) (fun s t _ => (intOf s).toNat + (intOf t).toNat)
 case atStart => exact ⟨m - a,b - m,d,by go_num,by go_num,RotOn.start d a m b ham hmb,HR,Only.refl _ _⟩
 case round =>
  obtain ⟨i,j,e,rfl,rfl,KI,KR,KO⟩ := hrel
  have i1 := KI.out.1
  have i2 := KI.out.2.1
  have i3 := KI.out.2.2.1
  have i4 := KI.out.2.2.2.1
  rcases Nat.lt_trichotomy i j with hlt | hlt | hlt
  ·have hb : ((i : Int) != (j : Int)) = true := by rw [bne_iff_ne]; omega
   go_wp2_with fail
   refine (swapRange_to g cap n (m - i) (m + j - i) i F e wr KR.out hn (by omega) (by omega) _ _ _ (by omega) (by omega) rfl).mono ?_
   rintro e' w2 ⟨rfl,d2,hr2,ho2,rfl⟩
   have KR2 := LH hr2
   have KO2 := LH (KO.out.trans ho2)
   clear hr2 ho2
   go_wp2_with fail
   go_roundw
   case rel => exact ⟨i,j - i,_,rfl,by go_num,KI.out.less hlt,KR2,KO2⟩
   case measure => simp [intOf]; omega
  ·subst hlt
   have hb : ((i : Int) != (i : Int)) = false := by simp
   go_wp2_with fail
   refine (swapRange_to g cap n (m - i) m i F e wr KR.out hn (by omega) (by omega) _ _ _ (by omega) (by omega) rfl).mono ?_
   rintro e' w2 ⟨rfl,d2,hr2,ho2,rfl⟩
   have KR2 := LH hr2
   have KO2 := LH (KO.out.trans ho2)
   clear hr2 ho2
   go_wp2_with fail
   go_end0
   exact ⟨rfl,_,KR2.out,KO2.out,KI.out.done⟩
  ·have hb : ((i : Int) != (j : Int)) = true := by rw [bne_iff_ne]; omega
   go_wp2_with fail
   refine (swapRange_to g cap n (m - i) m j F e wr KR.out hn (by omega) (by omega) _ _ _ (by omega) (by omega) rfl).mono ?_
   rintro e' w2 ⟨rfl,d2,hr2,ho2,rfl⟩
   have KR2 := LH hr2
   have KO2 := LH (KO.out.trans ho2)
   clear hr2 ho2
   go_wp2_with fail
   go_roundw
   case rel => exact ⟨i - j,j,_,by go_num,rfl,KI.out.big hlt,KR2,KO2⟩
   case measure => simp [intOf]; omega
end
section
open Go.RowKit
def Cmps (g : Nat) (kf : Nat -> Nat) (p : Nat -> Prop) (K : Nat) (w : World) : Prop :=
 ∀ w' (x y : Nat),Only g w w' -> p x -> p y -> Calls Tryz.prog 220 #[.int .i64 (x : Int),.int .i64 (y : Int),.pointer (some ⟨K,0,none⟩)] w' (CmpPost w' (cmpv (kf x) (kf y)))
theorem Cmps.later {g K : Nat} {kf : Nat -> Nat} {p : Nat -> Prop} {w w1 : World} (h : Cmps g kf p K w) (ho : Only g w w1) : Cmps g kf p K w1 := fun w' x y h1 h2 h3 => h w' x y (ho.trans h1) h2 h3
theorem quiet_cmp {P : Program} {f : FuncId} {args : Array Value} {w : World} {n : Nat} {c : Int}
  (h : Calls P f args (w.drewN n) (CmpPost (w.drewN n) c)) : Calls P f args (w.drewN n) fun e w'' => e = .returned (.int .i64 c) /\ ∃ m,w'' = w.drewN m :=
 h.mono fun _ _ ⟨he,k,hm⟩ => ⟨he,n + k,by rw [hm,World.drewN_drewN]⟩
theorem Cmps.at {g K n i j : Nat} {kf : Nat -> Nat} {p : Nat -> Prop} {w w' : World} {d : Nat -> Nat} (h : Cmps g kf p K w) (ho : Only g w w') (hp : ∀ i,i < n -> p (d i)) (hi : i < n) (hj : j < n) :
  ∃ c : Int,decide (c < 0) = decide (kf (d i) < kf (d j)) /\ ∀ m,Calls Tryz.prog 220 #[.int .i64 (d i : Int),.int .i64 (d j : Int),.pointer (some ⟨K,0,none⟩)] (w'.drewN m) (CmpPost (w'.drewN m) c) :=
 ⟨cmpv (kf (d i)) (kf (d j)),cmpv_neg _ _,fun m => h _ _ _ (only_drewN ho m) (hp i hi) (hp j hj)⟩
theorem row_swap_on {w w1 : World} {g n : Nat} {e : Nat -> Nat} (h : Rw w1 g n e) (ho : Only g w w1) (m i j x y : Nat) (hx : x = e i) (hy : y = e j) (hi : i < n) (hj : j < n) (hne : i ≠ j) :
  Rw (((w1.drewN m).setCell ⟨g,i,none⟩ (.int .i64 (y : Int))).setCell ⟨g,j,none⟩ (.int .i64 (x : Int))) g n (St.sw e i j) /\
   Only g w (((w1.drewN m).setCell ⟨g,i,none⟩ (.int .i64 (y : Int))).setCell ⟨g,j,none⟩ (.int .i64 (x : Int))) := by
 subst hx hy
 exact ⟨(h.drewN m).swap i j hi hj hne,((ho.trans (only_drewN (Only.refl _ _) m)).trans (only_set _ _ _ _)).trans (only_set _ _ _ _)⟩
def SortIs (kf : Nat -> Nat) (n : Nat) (d : Nat -> Nat) (a b : Nat) (d' : Nat -> Nat) : Prop := St.Swaps a b d d' /\ St.Ris kf d' n /\ St.Srt kf d' a b
def InsOut (kf : Nat -> Nat) (n : Nat) (d : Nat -> Nat) (a b i : Nat) (e : Nat -> Nat) : Prop := St.Swaps a b d e /\ St.Ris kf e n /\ St.Srt kf e a i
def InsIn (kf : Nat -> Nat) (n : Nat) (d : Nat -> Nat) (a b i j : Nat) (e : Nat -> Nat) : Prop := St.Swaps a b d e /\ St.Ris kf e n /\ St.Ins kf e a i j
theorem InsOut.start {kf d : Nat -> Nat} {n a b : Nat} (h : St.Ris kf d n) : InsOut kf n d a b (a + 1) d := ⟨.refl _,h,fun p q h1 h2 h3 => by omega⟩
theorem InsOut.into {kf d e : Nat -> Nat} {n a b i : Nat} (h : InsOut kf n d a b i e) : InsIn kf n d a b i i e := ⟨h.1,h.2.1,.start h.2.2⟩
theorem InsOut.done {kf d e : Nat -> Nat} {n a b i : Nat} (h : InsOut kf n d a b i e) (hi : b <= i) : SortIs kf n d a b e := ⟨h.1,h.2.1,h.2.2.sub (Nat.le_refl _) hi⟩
theorem InsIn.first {kf d e : Nat -> Nat} {n a b i : Nat} (h : InsIn kf n d a b i a e) : InsOut kf n d a b (i + 1) e := ⟨h.1,h.2.1,h.2.2.first⟩
theorem InsIn.stop {kf d e : Nat -> Nat} {n a b i j : Nat} (h : InsIn kf n d a b i j e) (hj : a < j) (hji : j <= i) (hge : ¬ kf (e j) < kf (e (j - 1))) : InsOut kf n d a b (i + 1) e := ⟨h.1,h.2.1,h.2.2.stop hj hji hge⟩
theorem InsIn.step {kf d e : Nat -> Nat} {n a b i j : Nat} (h : InsIn kf n d a b i j e) (hj : a < j) (hji : j <= i) (hib : i < b) (hbn : b <= n) (hlt : kf (e j) < kf (e (j - 1))) : InsIn kf n d a b i (j - 1) (St.sw e j (j - 1)) :=
 ⟨.step h.1 (by omega) (by omega) (by omega) (by omega),h.2.1.step (by omega) (by omega) hlt,h.2.2.step hj hji hlt⟩
theorem insertion_any (g cap n a b K : Nat) (kf : Nat -> Nat) (p : Nat -> Prop) (d : Nat -> Nat) (w : World) (hr : Rw w g n d) (hn : n <= 288) (hbn : b <= n) (hab : a <= 288) (hris : St.Ris kf d n) (hp : ∀ i,i < n -> p (d i)) (hcmp : Cmps g kf p K w) :
  Calls Tryz.prog 230 #[.slice (some ⟨g,0,none⟩) n cap,.int .i64 (a : Int),.int .i64 (b : Int),.func (.func 220) #[] #[.pointer (some ⟨K,0,none⟩)]] w (SortPost g n w (SortIs kf n d a b)) := by
 have HR := LH hr
 have HC := LH hcmp
 have HP := LH hp
 have HS := LH hris
 clear hr hcmp hp hris
 go_enter Tryz.func230,Tryz.ntmps230
 go_wp2
 go_loopw [8] (fun s8 wr => ∃ (i : Nat) (e : Nat -> Nat),a < i /\ i <= 289 /\ s8 = .int .i64 i /\ Hid (InsOut kf n d a b i e) /\ Hid (Rw wr g n e) /\ Hid (Only g w wr)) (fun s _ => b - (intOf s).toNat)
 case atStart => exact ⟨a + 1,d,by omega,by omega,by go_num,InsOut.start HS.out,HR,Only.refl _ _⟩
 case round =>
  obtain ⟨i,e,hi,hi2,rfl,KI,KR,KO⟩ := hrel
  by_cases hlt : i < b
  ·go_wp2
   go_loopw [9] (fun s9 wx => ∃ (j : Nat) (e : Nat -> Nat),a <= j /\ j <= i /\ s9 = .int .i64 j /\ Hid (InsIn kf n d a b i j e) /\ Hid (Rw wx g n e) /\ Hid (Only g w wx)) (fun s _ => (intOf s).toNat)
   case atStart => exact ⟨i,e,by omega,by omega,rfl,KI.out.into,KR,KO⟩
   case round =>
    clear KI KR KO
    obtain ⟨j,e2,hj1,hj2,rfl,KI,KR,KO⟩ := hrel
    by_cases hja : a < j
    ·have hd : decide (a < j) = true := by simpa using hja
     have c1 := KR.out.cell j (by omega)
     have c2 := KR.out.cell (j - 1) (by omega)
     have f1 := KR.out.free j (by omega)
     have f2 := KR.out.free (j - 1) (by omega)
     have hpe : ∀ k,k < n -> p (e2 k) := KI.out.1.all hbn p HP.out
     obtain ⟨c,hc,hcall⟩ := HC.out.at KO.out hpe (i := j) (j := j - 1) (by omega) (by omega)
     obtain ⟨x,hx⟩ : ∃ x,x = e2 j := ⟨_,rfl⟩
     obtain ⟨y,hy⟩ : ∃ y,y = e2 (j - 1) := ⟨_,rfl⟩
     rw [<- hx,<- hy] at hc hcall
     rw [<- hx] at c1
     rw [<- hy] at c2
     have HX := LH hx
     have HY := LH hy
     clear hx hy hpe
     by_cases hk : kf x < kf y
     ·have h0 : decide (c < 0) = true := by rw [hc]; simpa using hk
      have HK := LH hk
      clear hc hk
      go_wp2
      go_quiet ((go_at_call 220; exact quiet_cmp (hcall _)))
      clear hcall
      go_wp2
      go_region
      go_wp2
      all_goals
       go_roundw
       case rel =>
        have st := row_swap_on KR.out KO.out (nq + 1) j (j - 1) x y HX.out HY.out (by omega) (by omega) (by omega)
        exact ⟨j - 1,St.sw e2 j (j - 1),by omega,by omega,by go_num,KI.out.step hja hj2 hlt hbn (by rw [<- HX.out,<- HY.out]; exact HK.out),st.1,st.2⟩
       case measure => simp [intOf]; omega
     ·have h0 : decide (c < 0) = false := by rw [hc]; simpa using hk
      have HK := LH hk
      clear hc hk
      go_wp2
      go_quiet ((go_at_call 220; exact quiet_cmp (hcall _)))
      clear hcall
      go_wp2
      go_roundw
      case rel => exact ⟨i + 1,e2,by omega,by omega,by go_num,KI.out.stop hja hj2 (by rw [<- HX.out,<- HY.out]; exact HK.out),KR.out.drewN _,KO.out.trans (only_drewN (Only.refl _ _) _)⟩
      case measure => simp [intOf]; omega
    ·obtain rfl : j = a := by omega
     have hd : decide (j < j) = false := by simp
     go_wp2
     go_quiet (fail)
     go_wp2
     go_roundw
     case rel => exact ⟨i + 1,e2,by omega,by omega,by go_num,KI.out.first,KR.out.drewN _,KO.out.trans (only_drewN (Only.refl _ _) _)⟩
     case measure => simp [intOf]; omega
  ·go_wp2
   go_end0
   exact ⟨rfl,_,KR.out,KO.out,KI.out.done (by omega)⟩
end
section
open Go.RowKit
def LoIn (kf d : Nat -> Nat) (a m b i j : Nat) : Prop := m <= i /\ i <= j /\ j <= b /\ (∀ q,m <= q -> q < i -> kf (d q) < kf (d a)) /\ (∀ q,j <= q -> q < b -> kf (d a) <= kf (d q))
theorem LoIn.start (kf d : Nat -> Nat) (a m b : Nat) (h : m <= b) : LoIn kf d a m b m b := ⟨Nat.le_refl _,h,Nat.le_refl _,fun q h1 h2 => by omega,fun q h1 h2 => by omega⟩
theorem LoIn.up {kf d : Nat -> Nat} {a m b i j h : Nat} (k : LoIn kf d a m b i j) (hs : St.Srt kf d m b) (h1 : i <= h) (h2 : h < j) (hlt : kf (d h) < kf (d a)) : LoIn kf d a m b (h + 1) j := by
 obtain ⟨k1,k2,k3,k4,k5⟩ := k
 refine ⟨by omega,by omega,k3,fun q q1 q2 => ?_,k5⟩
 by_cases e : q = h
 ·rw [e]; exact hlt
 ·have := hs q h q1 (by omega) (by omega); omega
theorem LoIn.down {kf d : Nat -> Nat} {a m b i j h : Nat} (k : LoIn kf d a m b i j) (hs : St.Srt kf d m b) (h1 : i <= h) (h2 : h < j) (hge : ¬ kf (d h) < kf (d a)) : LoIn kf d a m b i h := by
 obtain ⟨k1,k2,k3,k4,k5⟩ := k
 refine ⟨k1,h1,by omega,k4,fun q q1 q2 => ?_⟩
 by_cases e : q = h
 ·rw [e]; omega
 ·have := hs h q (by omega) (by omega) q2; omega
theorem LoIn.done {kf d : Nat -> Nat} {a b n i : Nat} (k : LoIn kf d a (a + 1) b i i) (hs : St.Srt kf d (a + 1) b) (hr : St.Ris kf d n) (_hb : a + 1 < b) (hbn : b <= n) (hsw : St.Swaps a b d (St.shl d a (i - 1))) : SortIs kf n d a b (St.shl d a (i - 1)) := by
 obtain ⟨k1,k2,k3,k4,k5⟩ := k
 refine ⟨hsw,St.shl_ris hr (by omega) (by omega) (fun q q1 q2 => k4 q (by omega) (by omega)),St.shl_srt hs (by omega) (by omega) (fun q q1 q2 => k4 q (by omega) (by omega)) (fun q q1 q2 => k5 q (by omega) q2)⟩
theorem sym_one (g cap n a m b K : Nat) (kf : Nat -> Nat) (p : Nat -> Prop) (d : Nat -> Nat) (w : World) (hr : Rw w g n d) (hn : n <= 288) (hbn : b <= n) (ham : Hid (m = a + 1)) (hmb : m < b)
  (hs : St.Srt kf d m b) (hris : St.Ris kf d n) (hp : ∀ i,i < n -> p (d i)) (hcmp : Cmps g kf p K w) :
  Calls Tryz.prog 231 #[.slice (some ⟨g,0,none⟩) n cap,.int .i64 (a : Int),.int .i64 (m : Int),.int .i64 (b : Int),.func (.func 220) #[] #[.pointer (some ⟨K,0,none⟩)]] w (SortPost g n w (SortIs kf n d a b)) := by
 have HR := LH hr
 have HC := LH hcmp
 have HP := LH hp
 have HS := LH hs
 have HI := LH hris
 have hlam : a < m := by have := ham.out; omega
 have h1 : ((m : Int) - (a : Int) == 1) = true := by have := ham.out; rw [beq_iff_eq]; omega
 clear hr hcmp hp hs hris
 go_enter Tryz.func231,Tryz.ntmps231
 go_wp2
 go_loopw [10,11] (fun s10 s11 wr => ∃ (i j : Nat),s10 = .int .i64 i /\ s11 = .int .i64 j /\ Hid (LoIn kf d a m b i j) /\ Hid (Rw wr g n d) /\ Hid (Only g w wr)) (fun s t _ => (intOf t).toNat - (intOf s).toNat)
 case atStart => exact ⟨m,b,rfl,rfl,LoIn.start kf d a m b (by omega),HR,Only.refl _ _⟩
 case round =>
  obtain ⟨i,j,rfl,rfl,KI,KR,KO⟩ := hrel
  have i1 := KI.out.1
  have i2 := KI.out.2.1
  have i3 := KI.out.2.2.1
  by_cases hlt : i < j
  ·obtain ⟨h,hh⟩ : ∃ h : Nat,h = (i + j) / 2 := ⟨_,rfl⟩
   have hh1 : i <= h := by omega
   have hh2 : h < j := by omega
   have hh3 : ((i : Int) + (j : Int)) / 2 = (h : Int) := by omega
   clear hh
   have c1 := KR.out.cell h (by omega)
   have c2 := KR.out.cell a (by omega)
   obtain ⟨c,hc,hcall⟩ := HC.out.at KO.out HP.out (i := h) (j := a) (by omega) (by omega)
   obtain ⟨x,hx⟩ : ∃ x,x = d h := ⟨_,rfl⟩
   obtain ⟨y,hy⟩ : ∃ y,y = d a := ⟨_,rfl⟩
   rw [<- hx,<- hy] at hc hcall
   rw [<- hx] at c1
   rw [<- hy] at c2
   have HX := LH hx
   have HY := LH hy
   clear hx hy
   by_cases hk : kf x < kf y
   ·have h0 : decide (c < 0) = true := by rw [hc]; simpa using hk
    have HK := LH hk
    clear hc hk
    go_wp2
    go_quiet ((go_at_call 220; exact quiet_cmp (hcall _)))
    clear hcall
    go_wp2
    go_roundw
    case rel => exact ⟨h + 1,j,by go_num,rfl,KI.out.up HS.out hh1 hh2 (by rw [<- HX.out,<- HY.out]; exact HK.out),KR.out.drewN _,KO.out.trans (only_drewN (Only.refl _ _) _)⟩
    case measure => simp [intOf]; omega
   ·have h0 : decide (c < 0) = false := by rw [hc]; simpa using hk
    have HK := LH hk
    clear hc hk
    go_wp2
    go_quiet ((go_at_call 220; exact quiet_cmp (hcall _)))
    clear hcall
    go_wp2
    go_roundw
    case rel => exact ⟨i,h,rfl,rfl,KI.out.down HS.out hh1 hh2 (by rw [<- HX.out,<- HY.out]; exact HK.out),KR.out.drewN _,KO.out.trans (only_drewN (Only.refl _ _) _)⟩
    case measure => simp [intOf]; omega
  ·obtain rfl : i = j := by omega
   go_wp2
   go_loopw [13] (fun s13 wx => ∃ k : Nat,a <= k /\ k + 1 <= i /\ s13 = .int .i64 k /\ Hid (Rw wx g n (St.shl d a k)) /\ Hid (St.Swaps a b d (St.shl d a k)) /\ Hid (Only g w wx)) (fun s _ => i - (intOf s).toNat)
   case atStart => exact ⟨a,Nat.le_refl _,by omega,rfl,by show Rw _ _ _ _; rw [St.shl_zero]; exact KR.out,by show St.Swaps _ _ _ _; rw [St.shl_zero]; exact .refl _,KO⟩
   case round =>
    clear KR KO
    obtain ⟨k,hk1,hk2,rfl,KR,KS,KO⟩ := hrel
    by_cases hlt2 : k + 1 < i
    ·have c1 := KR.out.cell k (by omega)
     have c2 := KR.out.cell (k + 1) (by omega)
     have f1 := KR.out.free k (by omega)
     have f2 := KR.out.free (k + 1) (by omega)
     obtain ⟨x,hx⟩ : ∃ x,x = St.shl d a k k := ⟨_,rfl⟩
     obtain ⟨y,hy⟩ : ∃ y,y = St.shl d a k (k + 1) := ⟨_,rfl⟩
     rw [<- hx] at c1
     rw [<- hy] at c2
     have HX := LH hx
     have HY := LH hy
     have hne : ¬ k = k + 1 := by omega
     clear hx hy
     go_wp2
     go_region
     go_wp2
     all_goals
      go_roundw
      case rel =>
       have st := row_swap_on KR.out KO.out 1 k (k + 1) x y HX.out HY.out (by omega) (by omega) (by omega)
       exact ⟨k + 1,by omega,by omega,by go_num,by show Rw _ _ _ _; rw [St.shl_succ _ _ _ hk1]; exact st.1,by show St.Swaps _ _ _ _; rw [St.shl_succ _ _ _ hk1]; exact .step KS.out (by omega) (by omega) (by omega) (by omega),st.2⟩
      case measure => simp [intOf]; omega
    ·obtain rfl : i = k + 1 := by omega
     go_wp2
     go_end0
     refine ⟨rfl,_,KR.out,KO.out,?_⟩
     have hm := ham.out
     subst hm
     exact LoIn.done KI.out HS.out HI.out hmb hbn KS.out
end
section
open Go.RowKit
def HiIn (kf d : Nat -> Nat) (a m i j : Nat) : Prop := a <= i /\ i <= j /\ j <= m /\ (∀ q,a <= q -> q < i -> kf (d q) <= kf (d m)) /\ (∀ q,j <= q -> q < m -> kf (d m) < kf (d q))
theorem HiIn.start (kf d : Nat -> Nat) (a m : Nat) (h : a <= m) : HiIn kf d a m a m := ⟨Nat.le_refl _,h,Nat.le_refl _,fun q h1 h2 => by omega,fun q h1 h2 => by omega⟩
theorem HiIn.up {kf d : Nat -> Nat} {a m i j h : Nat} (k : HiIn kf d a m i j) (hs : St.Srt kf d a m) (h1 : i <= h) (h2 : h < j) (hge : ¬ kf (d m) < kf (d h)) : HiIn kf d a m (h + 1) j := by
 obtain ⟨k1,k2,k3,k4,k5⟩ := k
 refine ⟨by omega,by omega,k3,fun q q1 q2 => ?_,k5⟩
 by_cases e : q = h
 ·rw [e]; omega
 ·have := hs q h q1 (by omega) (by omega); omega
theorem HiIn.down {kf d : Nat -> Nat} {a m i j h : Nat} (k : HiIn kf d a m i j) (hs : St.Srt kf d a m) (h1 : i <= h) (h2 : h < j) (hlt : kf (d m) < kf (d h)) : HiIn kf d a m i h := by
 obtain ⟨k1,k2,k3,k4,k5⟩ := k
 refine ⟨k1,h1,by omega,k4,fun q q1 q2 => ?_⟩
 by_cases e : q = h
 ·rw [e]; exact hlt
 ·have := hs h q (by omega) (by omega) q2; omega
theorem HiIn.done {kf d : Nat -> Nat} {a m b n i : Nat} (k : HiIn kf d a m i i) (hb : b = m + 1) (hs : St.Srt kf d a m) (hr : St.Ris kf d n) (hbn : b <= n) (hsw : St.Swaps a b d (St.shr d m i)) : SortIs kf n d a b (St.shr d m i) := by
 obtain ⟨k1,k2,k3,k4,k5⟩ := k
 subst hb
 exact ⟨hsw,St.shr_ris hr (by omega) (by omega) k5,St.shr_srt hs (by omega) (by omega) k4 k5⟩
theorem sym_two (g cap n a m b K : Nat) (kf : Nat -> Nat) (p : Nat -> Prop) (d : Nat -> Nat) (w : World) (hr : Rw w g n d) (hn : n <= 288) (hbn : b <= n) (ham : a + 1 < m) (hmb : Hid (b = m + 1))
  (hs : St.Srt kf d a m) (hris : St.Ris kf d n) (hp : ∀ i,i < n -> p (d i)) (hcmp : Cmps g kf p K w) :
  Calls Tryz.prog 231 #[.slice (some ⟨g,0,none⟩) n cap,.int .i64 (a : Int),.int .i64 (m : Int),.int .i64 (b : Int),.func (.func 220) #[] #[.pointer (some ⟨K,0,none⟩)]] w (SortPost g n w (SortIs kf n d a b)) := by
 have HR := LH hr
 have HC := LH hcmp
 have HP := LH hp
 have HS := LH hs
 have HI := LH hris
 have hlmb : m < b := by have := hmb.out; omega
 have h1 : ((m : Int) - (a : Int) == 1) = false := by rw [beq_eq_false_iff_ne]; omega
 have h2 : ((b : Int) - (m : Int) == 1) = true := by have := hmb.out; rw [beq_iff_eq]; omega
 clear hr hcmp hp hs hris
 go_enter Tryz.func231,Tryz.ntmps231
 go_wp2
 go_loopw [14,15] (fun s10 s11 wr => ∃ (i j : Nat),s10 = .int .i64 i /\ s11 = .int .i64 j /\ Hid (HiIn kf d a m i j) /\ Hid (Rw wr g n d) /\ Hid (Only g w wr)) (fun s t _ => (intOf t).toNat - (intOf s).toNat)
 case atStart => exact ⟨a,m,rfl,rfl,HiIn.start kf d a m (by omega),HR,Only.refl _ _⟩
 case round =>
  obtain ⟨i,j,rfl,rfl,KI,KR,KO⟩ := hrel
  have i1 := KI.out.1
  have i2 := KI.out.2.1
  have i3 := KI.out.2.2.1
  by_cases hlt : i < j
  ·obtain ⟨h,hh⟩ : ∃ h : Nat,h = (i + j) / 2 := ⟨_,rfl⟩
   have hh1 : i <= h := by omega
   have hh2 : h < j := by omega
   have hh3 : ((i : Int) + (j : Int)) / 2 = (h : Int) := by omega
   clear hh
   have c1 := KR.out.cell m (by omega)
   have c2 := KR.out.cell h (by omega)
   obtain ⟨c,hc,hcall⟩ := HC.out.at KO.out HP.out (i := m) (j := h) (by omega) (by omega)
   obtain ⟨x,hx⟩ : ∃ x,x = d m := ⟨_,rfl⟩
   obtain ⟨y,hy⟩ : ∃ y,y = d h := ⟨_,rfl⟩
   rw [<- hx,<- hy] at hc hcall
   rw [<- hx] at c1
   rw [<- hy] at c2
   have HX := LH hx
   have HY := LH hy
   clear hx hy
   by_cases hk : kf x < kf y
   ·have h0 : decide (c < 0) = true := by rw [hc]; simpa using hk
    have HK := LH hk
    clear hc hk
    go_wp2
    go_quiet ((go_at_call 220; exact quiet_cmp (hcall _)))
    clear hcall
    go_wp2
    go_roundw
    case rel => exact ⟨i,h,rfl,rfl,KI.out.down HS.out hh1 hh2 (by rw [<- HX.out,<- HY.out]; exact HK.out),KR.out.drewN _,KO.out.trans (only_drewN (Only.refl _ _) _)⟩
    case measure => simp [intOf]; omega
   ·have h0 : decide (c < 0) = false := by rw [hc]; simpa using hk
    have HK := LH hk
    clear hc hk
    go_wp2
    go_quiet ((go_at_call 220; exact quiet_cmp (hcall _)))
    clear hcall
    go_wp2
    go_roundw
    case rel => exact ⟨h + 1,j,by go_num,rfl,KI.out.up HS.out hh1 hh2 (by rw [<- HX.out,<- HY.out]; exact HK.out),KR.out.drewN _,KO.out.trans (only_drewN (Only.refl _ _) _)⟩
    case measure => simp [intOf]; omega
  ·obtain rfl : i = j := by omega
   go_wp2
   go_loopw [17] (fun s13 wx => ∃ k : Nat,i <= k /\ k <= m /\ s13 = .int .i64 k /\ Hid (Rw wx g n (St.shr d m k)) /\ Hid (St.Swaps a b d (St.shr d m k)) /\ Hid (Only g w wx)) (fun s _ => (intOf s).toNat)
   case atStart => exact ⟨m,by omega,Nat.le_refl _,rfl,by show Rw _ _ _ _; rw [St.shr_zero]; exact KR.out,by show St.Swaps _ _ _ _; rw [St.shr_zero]; exact .refl _,KO⟩
   case round =>
    clear KR KO
    obtain ⟨k,hk1,hk2,rfl,KR,KS,KO⟩ := hrel
    by_cases hlt2 : i < k
    ·have c1 := KR.out.cell k (by omega)
     have c2 := KR.out.cell (k - 1) (by omega)
     have f1 := KR.out.free k (by omega)
     have f2 := KR.out.free (k - 1) (by omega)
     obtain ⟨x,hx⟩ : ∃ x,x = St.shr d m k k := ⟨_,rfl⟩
     obtain ⟨y,hy⟩ : ∃ y,y = St.shr d m k (k - 1) := ⟨_,rfl⟩
     rw [<- hx] at c1
     rw [<- hy] at c2
     have HX := LH hx
     have HY := LH hy
     have hne : ¬ k = k - 1 := by omega
     clear hx hy
     go_wp2
     go_region
     go_wp2
     all_goals
      go_roundw
      case rel =>
       have st := row_swap_on KR.out KO.out 1 k (k - 1) x y HX.out HY.out (by omega) (by omega) (by omega)
       exact ⟨k - 1,by omega,by omega,by go_num,by show Rw _ _ _ _; rw [St.shr_succ _ _ _ hk2 (by omega)]; exact st.1,by show St.Swaps _ _ _ _; rw [St.shr_succ _ _ _ hk2 (by omega)]; exact .step KS.out (by omega) (by omega) (by omega) (by omega),st.2⟩
      case measure => simp [intOf]; omega
    ·obtain rfl : i = k := by omega
     go_wp2
     go_end0
     exact ⟨rfl,_,KR.out,KO.out,KI.out.done hmb.out HS.out HI.out hbn KS.out⟩
end
end Go.Proofs.YtmgpcbjciioiaaaGreatDoor
