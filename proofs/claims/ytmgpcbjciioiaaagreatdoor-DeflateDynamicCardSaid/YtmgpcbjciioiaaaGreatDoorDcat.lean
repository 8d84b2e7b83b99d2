import Derived.Test.YtmgpcbjciioiaaaGreatDoorKlen
import Derived.Test.YtmgpcbjciioiaaaGreatDoorLplain
import Derived.Test.YtmgpcbjciioiaaaGreatDoorHsort
import Derived.Test.YtmgpcbjciioiaaaGreatDoorHrnew
import Derived.BigRegion
import Derived.Deep.RegionWith
import Derived.Deep.DeepCutAuto
import Derived.Lib.AppendZeros
namespace Go.Proofs.YtmgpcbjciioiaaaGreatDoor.Ls
set_option maxRecDepth 100000
set_option maxHeartbeats 8000000
section
open Go.RowKit
structure Rw (w : World) (g n : Nat) (d : Nat -> Nat) : Prop where
 lt : g < w.heap.size
 cell : ∀ i,i < n -> w.cell? ⟨g,i,none⟩ = some (.pointer (some ⟨d i,0,none⟩))
 free : ∀ i,i < n -> w.frozen? ⟨g,i,none⟩ = false
theorem Rw.drewN {w : World} {g n : Nat} {d : Nat -> Nat} (h : Rw w g n d) (k : Nat) : Rw (w.drewN k) g n d := ⟨h.lt,h.cell,h.free⟩
theorem Rw.swap {w : World} {g n : Nat} {d : Nat -> Nat} (h : Rw w g n d) (i j : Nat) (hi : i < n) (hj : j < n) (hne : i ≠ j) :
  Rw ((w.setCell ⟨g,i,none⟩ (.pointer (some ⟨d j,0,none⟩))).setCell ⟨g,j,none⟩ (.pointer (some ⟨d i,0,none⟩))) g n (St.sw d i j) := by
 refine ⟨by simpa using h.lt,fun k hk => ?_,fun k hk => by rw [World.frozen?_setCell,World.frozen?_setCell]; exact h.free k hk⟩
 unfold St.sw
 by_cases h1 : k = j
 ·subst h1
  rw [if_neg (by omega),if_pos rfl]
  refine World.cell?_setCell_same' _ _ _ ?_
  rw [World.cell?_setCell_other _ _ _ _ (addr_ne g (by omega)),h.cell k hk]; rfl
 ·rw [World.cell?_setCell_other _ _ _ _ (addr_ne g (by omega))]
  by_cases h2 : k = i
  ·subst h2
   rw [if_pos rfl]
   exact World.cell?_setCell_same' _ _ _ (by rw [h.cell k hk]; rfl)
  ·rw [if_neg h2,if_neg h1,World.cell?_setCell_other _ _ _ _ (addr_ne g (by omega))]
   exact h.cell k hk
def SortPost (g n : Nat) (w : World) (Q : (Nat -> Nat) -> Prop) (e : Ending) (w' : World) : Prop :=
 e = .returned (.tuple #[]) /\ ∃ d',Rw w' g n d' /\ Only g w w' /\ Q d'
theorem row_exch_step {w w1 : World} {g n : Nat} {d : Nat -> Nat} {a b k : Nat} (h : Rw w1 g n (St.exch d a b k)) (ho : Only g w w1) (hab : a + k < b) (hn : b + k < n) :
  Rw (((w1.setCell ⟨g,a + k,none⟩ (.pointer (some ⟨St.exch d a b k (b + k),0,none⟩))).setCell ⟨g,b + k,none⟩ (.pointer (some ⟨St.exch d a b k (a + k),0,none⟩))).drew) g n (St.exch d a b (k + 1)) /\
   Only g w (((w1.setCell ⟨g,a + k,none⟩ (.pointer (some ⟨St.exch d a b k (b + k),0,none⟩))).setCell ⟨g,b + k,none⟩ (.pointer (some ⟨St.exch d a b k (a + k),0,none⟩))).drew) := by
 refine ⟨?_,only_drew ((ho.trans (only_set _ _ _ _)).trans (only_set _ _ _ _))⟩
 rw [St.exch_succ _ _ _ _ hab]
 exact (h.swap (a + k) (b + k) (by omega) hn (by omega)).drewN 1
theorem swapRange_any (g cap n a b m : Nat) (F : Value) (d : Nat -> Nat) (w : World) (hr : Rw w g n d) (hn : n <= 288) (hab : a + m <= b) (hbn : b + m <= n) :
  Calls Tryz.prog 232 #[.slice (some ⟨g,0,none⟩) n cap,.int .i64 (a : Int),.int .i64 (b : Int),.int .i64 (m : Int),F] w (SortPost g n w (fun d' => d' = St.exch d a b m)) := by
 have HR := LH hr
 clear hr
 go_enter Tryz.func232,Tryz.ntmps232
 go_wp2
 go_loopw [10] (fun s10 wr => ∃ k : Nat,k <= m /\ s10 = .int .i64 k /\ Hid (Rw wr g n (St.exch d a b k)) /\ Hid (Only g w wr)) (fun s _ => m - (intOf s).toNat)
 case atStart => exact ⟨0,Nat.zero_le _,rfl,by show Rw _ _ _ _; rw [St.exch_zero]; exact HR.out,Only.refl _ _⟩
 case round =>
  obtain ⟨k,hk,rfl,KR,KO⟩ := hrel
  by_cases hlt : k < m
  ·have c1 := KR.out.cell (a + k) (by omega)
   have c2 := KR.out.cell (b + k) (by omega)
   have f1 := KR.out.free (a + k) (by omega)
   have f2 := KR.out.free (b + k) (by omega)
   obtain ⟨x,hx⟩ : ∃ x,x = St.exch d a b k (a + k) := ⟨_,rfl⟩
   obtain ⟨y,hy⟩ : ∃ y,y = St.exch d a b k (b + k) := ⟨_,rfl⟩
   have st := row_exch_step KR.out KO.out (show a + k < b by omega) (show b + k < n by omega)
   rw [<- hx,<- hy] at st
   rw [<- hx] at c1
   rw [<- hy] at c2
   have ST := LH st
   have hne : ¬ a + k = b + k := by omega
   have hne2 : ¬ b + k = a + k := by omega
   clear hx hy st
   go_wp2
   go_region
   go_wp2
   all_goals
    go_roundw
    case rel => exact ⟨k + 1,by omega,by go_num,ST.out.1,ST.out.2⟩
    case measure => simp [intOf]; omega
  ·obtain rfl : k = m := by omega
   go_wp2
   go_end0
   exact ⟨rfl,_,KR.out,KO.out,rfl⟩
end
section
open Go.RowKit
theorem swapRange_to (g cap n a b m : Nat) (F : Value) (d : Nat -> Nat) (w : World) (hr : Rw w g n d) (hn : n <= 288) (hab : a + m <= b) (hbn : b + m <= n) (A B M : Int) (hA : A = (a : Int)) (hB : B = (b : Int)) (hM : M = (m : Int)) :
  Calls Tryz.prog 232 #[.slice (some ⟨g,0,none⟩) n cap,.int .i64 A,.int .i64 B,.int .i64 M,F] w (SortPost g n w (fun d' => d' = St.exch d a b m)) := by
 subst hA hB hM
 exact swapRange_any g cap n a b m F d w hr hn hab hbn
theorem rotate_any (g cap n a m b : Nat) (F : Value) (d : Nat -> Nat) (w : World) (hr : Rw w g n d) (hn : n <= 288) (ham : a < m) (hmb : m < b) (hbn : b <= n) :
  Calls Tryz.prog 229 #[.slice (some ⟨g,0,none⟩) n cap,.int .i64 (a : Int),.int .i64 (m : Int),.int .i64 (b : Int),F] w (SortPost g n w (RotIs d a m b)) := by
 have HR := LH hr
 clear hr
 go_enter Tryz.func229,Tryz.ntmps229
 go_wp2
 go_loopw [10,11] (fun s10 s11 wr => ∃ (i j : Nat) (e : Nat -> Nat),s10 = .int .i64 i /\ s11 = .int .i64 j /\ Hid (RotOn d a m b i j e) /\ Hid (Rw wr g n e) /\ Hid (Only g w wr)) (fun s t _ => (intOf s).toNat + (intOf t).toNat)
 case atStart => exact ⟨m - a,b - m,d,by go_num,by go_num,RotOn.start d a m b ham hmb,HR,Only.refl _ _⟩
 case round =>
  obtain ⟨i,j,e,rfl,rfl,KI,KR,KO⟩ := hrel
  have i1 := KI.out.1
  have i2 := KI.out.2.1
  have i3 := KI.out.2.2.1
  have i4 := KI.out.2.2.2.1
  rcases Nat.lt_trichotomy i j with hlt | hlt | hlt
  ·have hb : ((i : Int) != (j : Int)) = true := by rw [bne_iff_ne]; omega
   go_wp2_with fail
   refine (swapRange_to g cap n (m - i) (m + j - i) i F e wr KR.out hn (by omega) (by omega) _ _ _ (by omega) (by omega) rfl).mono ?_
   rintro e' w2 ⟨rfl,d2,hr2,ho2,rfl⟩
   have KR2 := LH hr2
   have KO2 := LH (KO.out.trans ho2)
   clear hr2 ho2
   go_wp2_with fail
   go_roundw
   case rel => exact ⟨i,j - i,_,rfl,by go_num,KI.out.less hlt,KR2,KO2⟩
   case measure => simp [intOf]; omega
  ·subst hlt
   have hb : ((i : Int) != (i : Int)) = false := by simp
   go_wp2_with fail
   refine (swapRange_to g cap n (m - i) m i F e wr KR.out hn (by omega) (by omega) _ _ _ (by omega) (by omega) rfl).mono ?_
   rintro e' w2 ⟨rfl,d2,hr2,ho2,rfl⟩
   have KR2 := LH hr2
   have KO2 := LH (KO.out.trans ho2)
   clear hr2 ho2
   go_wp2_with fail
   go_end0
   exact ⟨rfl,_,KR2.out,KO2.out,KI.out.done⟩
  ·have hb : ((i : Int) != (j : Int)) = true := by rw [bne_iff_ne]; omega
   go_wp2_with fail
   refine (swapRange_to g cap n (m - i) m j F e wr KR.out hn (by omega) (by omega) _ _ _ (by omega) (by omega) rfl).mono ?_
   rintro e' w2 ⟨rfl,d2,hr2,ho2,rfl⟩
   have KR2 := LH hr2
   have KO2 := LH (KO.out.trans ho2)
   clear hr2 ho2
   go_wp2_with fail
   go_roundw
   case rel => exact ⟨i - j,j,_,by go_num,rfl,KI.out.big hlt,KR2,KO2⟩
   case measure => simp [intOf]; omega
end
section
open Go.RowKit
def Cmps (g : Nat) (kf : Nat -> Nat) (p : Nat -> Prop) (w : World) : Prop :=
 ∀ w' (x y : Nat),Only g w w' -> p x -> p y -> Calls Tryz.prog 189 #[.pointer (some ⟨x,0,none⟩),.pointer (some ⟨y,0,none⟩)] w' (CmpPost w' (cmpv (kf x) (kf y)))
theorem Cmps.later {g : Nat} {kf : Nat -> Nat} {p : Nat -> Prop} {w w1 : World} (h : Cmps g kf p w) (ho : Only g w w1) : Cmps g kf p w1 := fun w' x y h1 h2 h3 => h w' x y (ho.trans h1) h2 h3
theorem Cmps.at {g n i j : Nat} {kf : Nat -> Nat} {p : Nat -> Prop} {w w' : World} {d : Nat -> Nat} (h : Cmps g kf p w) (ho : Only g w w') (hp : ∀ i,i < n -> p (d i)) (hi : i < n) (hj : j < n) :
  ∃ c : Int,decide (c < 0) = decide (kf (d i) < kf (d j)) /\ ∀ m,Calls Tryz.prog 189 #[.pointer (some ⟨d i,0,none⟩),.pointer (some ⟨d j,0,none⟩)] (w'.drewN m) (CmpPost (w'.drewN m) c) :=
 ⟨cmpv (kf (d i)) (kf (d j)),cmpv_neg _ _,fun m => h _ _ _ (only_drewN ho m) (hp i hi) (hp j hj)⟩
theorem row_swap_on {w w1 : World} {g n : Nat} {e : Nat -> Nat} (h : Rw w1 g n e) (ho : Only g w w1) (m i j x y : Nat) (hx : x = e i) (hy : y = e j) (hi : i < n) (hj : j < n) (hne : i ≠ j) :
  Rw (((w1.drewN m).setCell ⟨g,i,none⟩ (.pointer (some ⟨y,0,none⟩))).setCell ⟨g,j,none⟩ (.pointer (some ⟨x,0,none⟩))) g n (St.sw e i j) /\
   Only g w (((w1.drewN m).setCell ⟨g,i,none⟩ (.pointer (some ⟨y,0,none⟩))).setCell ⟨g,j,none⟩ (.pointer (some ⟨x,0,none⟩))) := by
 subst hx hy
 exact ⟨(h.drewN m).swap i j hi hj hne,((ho.trans (only_drewN (Only.refl _ _) m)).trans (only_set _ _ _ _)).trans (only_set _ _ _ _)⟩
theorem insertion_any (g cap n a b : Nat) (kf : Nat -> Nat) (p : Nat -> Prop) (d : Nat -> Nat) (w : World) (hr : Rw w g n d) (hn : n <= 288) (hbn : b <= n) (hab : a <= 288) (hris : St.Ris kf d n) (hp : ∀ i,i < n -> p (d i)) (hcmp : Cmps g kf p w) :
  Calls Tryz.prog 221 #[.slice (some ⟨g,0,none⟩) n cap,.int .i64 (a : Int),.int .i64 (b : Int),.func (.func 189) #[] #[]] w (SortPost g n w (SortIs kf n d a b)) := by
 have HR := LH hr
 have HC := LH hcmp
 have HP := LH hp
 have HS := LH hris
 clear hr hcmp hp hris
 go_enter Tryz.func221,Tryz.ntmps221
 go_wp2
 go_loopw [8] (fun s8 wr => ∃ (i : Nat) (e : Nat -> Nat),a < i /\ i <= 289 /\ s8 = .int .i64 i /\ Hid (InsOut kf n d a b i e) /\ Hid (Rw wr g n e) /\ Hid (Only g w wr)) (fun s _ => b - (intOf s).toNat)
 case atStart => exact ⟨a + 1,d,by omega,by omega,by go_num,InsOut.start HS.out,HR,Only.refl _ _⟩
 case round =>
  obtain ⟨i,e,hi,hi2,rfl,KI,KR,KO⟩ := hrel
  by_cases hlt : i < b
  ·go_wp2
   go_loopw [9] (fun s9 wx => ∃ (j : Nat) (e : Nat -> Nat),a <= j /\ j <= i /\ s9 = .int .i64 j /\ Hid (InsIn kf n d a b i j e) /\ Hid (Rw wx g n e) /\ Hid (Only g w wx)) (fun s _ => (intOf s).toNat)
   case atStart => exact ⟨i,e,by omega,by omega,rfl,KI.out.into,KR,KO⟩
   case round =>
    clear KI KR KO
    obtain ⟨j,e2,hj1,hj2,rfl,KI,KR,KO⟩ := hrel
    by_cases hja : a < j
    ·have hd : decide (a < j) = true := by simpa using hja
     have c1 := KR.out.cell j (by omega)
     have c2 := KR.out.cell (j - 1) (by omega)
     have f1 := KR.out.free j (by omega)
     have f2 := KR.out.free (j - 1) (by omega)
     have hpe : ∀ k,k < n -> p (e2 k) := KI.out.1.all hbn p HP.out
     obtain ⟨c,hc,hcall⟩ := HC.out.at KO.out hpe (i := j) (j := j - 1) (by omega) (by omega)
     obtain ⟨x,hx⟩ : ∃ x,x = e2 j := ⟨_,rfl⟩
     obtain ⟨y,hy⟩ : ∃ y,y = e2 (j - 1) := ⟨_,rfl⟩
     rw [<- hx,<- hy] at hc hcall
     rw [<- hx] at c1
     rw [<- hy] at c2
     have HX := LH hx
     have HY := LH hy
     clear hx hy hpe
     by_cases hk : kf x < kf y
     ·have h0 : decide (c < 0) = true := by rw [hc]; simpa using hk
      have HK := LH hk
      clear hc hk
      go_wp2
      go_quiet ((go_at_call 189; exact quiet_cmp (hcall _)))
      clear hcall
      go_wp2
      go_region
      go_wp2
      all_goals
       go_roundw
       case rel =>
        have st := row_swap_on KR.out KO.out (nq + 1) j (j - 1) x y HX.out HY.out (by omega) (by omega) (by omega)
        exact ⟨j - 1,St.sw e2 j (j - 1),by omega,by omega,by go_num,KI.out.step hja hj2 hlt hbn (by rw [<- HX.out,<- HY.out]; exact HK.out),st.1,st.2⟩
       case measure => simp [intOf]; omega
     ·have h0 : decide (c < 0) = false := by rw [hc]; simpa using hk
      have HK := LH hk
      clear hc hk
      go_wp2
      go_quiet ((go_at_call 189; exact quiet_cmp (hcall _)))
      clear hcall
      go_wp2
      go_roundw
      case rel => exact ⟨i + 1,e2,by omega,by omega,by go_num,KI.out.stop hja hj2 (by rw [<- HX.out,<- HY.out]; exact HK.out),KR.out.drewN _,KO.out.trans (only_drewN (Only.refl _ _) _)⟩
      case measure => simp [intOf]; omega
    ·obtain rfl : j = a := by omega
     have hd : decide (j < j) = false := by simp
     go_wp2
     go_quiet (fail)
     go_wp2
     go_roundw
     case rel => exact ⟨i + 1,e2,by omega,by omega,by go_num,KI.out.first,KR.out.drewN _,KO.out.trans (only_drewN (Only.refl _ _) _)⟩
     case measure => simp [intOf]; omega
  ·go_wp2
   go_end0
   exact ⟨rfl,_,KR.out,KO.out,KI.out.done (by omega)⟩
end
section
open Go.RowKit
theorem sym_one (g cap n a m b : Nat) (kf : Nat -> Nat) (p : Nat -> Prop) (d : Nat -> Nat) (w : World) (hr : Rw w g n d) (hn : n <= 288) (hbn : b <= n) (ham : Hid (m = a + 1)) (hmb : m < b)
  (hs : St.Srt kf d m b) (hris : St.Ris kf d n) (hp : ∀ i,i < n -> p (d i)) (hcmp : Cmps g kf p w) :
  Calls Tryz.prog 222 #[.slice (some ⟨g,0,none⟩) n cap,.int .i64 (a : Int),.int .i64 (m : Int),.int .i64 (b : Int),.func (.func 189) #[] #[]] w (SortPost g n w (SortIs kf n d a b)) := by
 have HR := LH hr
 have HC := LH hcmp
 have HP := LH hp
 have HS := LH hs
 have HI := LH hris
 have hlam : a < m := by have := ham.out; omega
 have h1 : ((m : Int) - (a : Int) == 1) = true := by have := ham.out; rw [beq_iff_eq]; omega
 clear hr hcmp hp hs hris
 go_enter Tryz.func222,Tryz.ntmps222
 go_wp2
 go_loopw [10,11] (fun s10 s11 wr => ∃ (i j : Nat),s10 = .int .i64 i /\ s11 = .int .i64 j /\ Hid (LoIn kf d a m b i j) /\ Hid (Rw wr g n d) /\ Hid (Only g w wr)) (fun s t _ => (intOf t).toNat - (intOf s).toNat)
 case atStart => exact ⟨m,b,rfl,rfl,LoIn.start kf d a m b (by omega),HR,Only.refl _ _⟩
 case round =>
  obtain ⟨i,j,rfl,rfl,KI,KR,KO⟩ := hrel
  have i1 := KI.out.1
  have i2 := KI.out.2.1
  have i3 := KI.out.2.2.1
  by_cases hlt : i < j
  ·obtain ⟨h,hh⟩ : ∃ h : Nat,h = (i + j) / 2 := ⟨_,rfl⟩
   have hh1 : i <= h := by omega
   have hh2 : h < j := by omega
   have hh3 : ((i : Int) + (j : Int)) / 2 = (h : Int) := by omega
   clear hh
   have c1 := KR.out.cell h (by omega)
   have c2 := KR.out.cell a (by omega)
   obtain ⟨c,hc,hcall⟩ := HC.out.at KO.out HP.out (i := h) (j := a) (by omega) (by omega)
   obtain ⟨x,hx⟩ : ∃ x,x = d h := ⟨_,rfl⟩
   obtain ⟨y,hy⟩ : ∃ y,y = d a := ⟨_,rfl⟩
   rw [<- hx,<- hy] at hc hcall
   rw [<- hx] at c1
   rw [<- hy] at c2
   have HX := LH hx
   have HY := LH hy
   clear hx hy
   by_cases hk : kf x < kf y
   ·have h0 : decide (c < 0) = true := by rw [hc]; simpa using hk
    have HK := LH hk
    clear hc hk
    go_wp2
    go_quiet ((go_at_call 189; exact quiet_cmp (hcall _)))
    clear hcall
    go_wp2
    go_roundw
    case rel => exact ⟨h + 1,j,by go_num,rfl,KI.out.up HS.out hh1 hh2 (by rw [<- HX.out,<- HY.out]; exact HK.out),KR.out.drewN _,KO.out.trans (only_drewN (Only.refl _ _) _)⟩
    case measure => simp [intOf]; omega
   ·have h0 : decide (c < 0) = false := by rw [hc]; simpa using hk
    have HK := LH hk
    clear hc hk
    go_wp2
    go_quiet ((go_at_call 189; exact quiet_cmp (hcall _)))
    clear hcall
    go_wp2
    go_roundw
    case rel => exact ⟨i,h,rfl,rfl,KI.out.down HS.out hh1 hh2 (by rw [<- HX.out,<- HY.out]; exact HK.out),KR.out.drewN _,KO.out.trans (only_drewN (Only.refl _ _) _)⟩
    case measure => simp [intOf]; omega
  ·obtain rfl : i = j := by omega
   go_wp2
   go_loopw [13] (fun s13 wx => ∃ k : Nat,a <= k /\ k + 1 <= i /\ s13 = .int .i64 k /\ Hid (Rw wx g n (St.shl d a k)) /\ Hid (St.Swaps a b d (St.shl d a k)) /\ Hid (Only g w wx)) (fun s _ => i - (intOf s).toNat)
   case atStart => exact ⟨a,Nat.le_refl _,by omega,rfl,by show Rw _ _ _ _; rw [St.shl_zero]; exact KR.out,by show St.Swaps _ _ _ _; rw [St.shl_zero]; exact .refl _,KO⟩
   case round =>
    clear KR KO
    obtain ⟨k,hk1,hk2,rfl,KR,KS,KO⟩ := hrel
    by_cases hlt2 : k + 1 < i
    ·have c1 := KR.out.cell k (by omega)
     have c2 := KR.out.cell (k + 1) (by omega)
     have f1 := KR.out.free k (by omega)
     have f2 := KR.out.free (k + 1) (by omega)
     obtain ⟨x,hx⟩ : ∃ x,x = St.shl d a k k := ⟨_,rfl⟩
     obtain ⟨y,hy⟩ : ∃ y,y = St.shl d a k (k + 1) := ⟨_,rfl⟩
     rw [<- hx] at c1
     rw [<- hy] at c2
     have HX := LH hx
     have HY := LH hy
     have hne : ¬ k = k + 1 := by omega
     clear hx hy
     go_wp2
     go_region
     go_wp2
     all_goals
      go_roundw
      case rel =>
       have st := row_swap_on KR.out KO.out 1 k (k + 1) x y HX.out HY.out (by omega) (by omega) (by omega)
       exact ⟨k + 1,by omega,by omega,by go_num,by show Rw _ _ _ _; rw [St.shl_succ _ _ _ hk1]; exact st.1,by show St.Swaps _ _ _ _; rw [St.shl_succ _ _ _ hk1]; exact .step KS.out (by omega) (by omega) (by omega) (by omega),st.2⟩
      case measure => simp [intOf]; omega
    ·obtain rfl : i = k + 1 := by omega
     go_wp2
     go_end0
     refine ⟨rfl,_,KR.out,KO.out,?_⟩
     have hm := ham.out
     subst hm
     exact LoIn.done KI.out HS.out HI.out hmb hbn KS.out
end
section
open Go.RowKit
theorem sym_two (g cap n a m b : Nat) (kf : Nat -> Nat) (p : Nat -> Prop) (d : Nat -> Nat) (w : World) (hr : Rw w g n d) (hn : n <= 288) (hbn : b <= n) (ham : a + 1 < m) (hmb : Hid (b = m + 1))
  (hs : St.Srt kf d a m) (hris : St.Ris kf d n) (hp : ∀ i,i < n -> p (d i)) (hcmp : Cmps g kf p w) :
  Calls Tryz.prog 222 #[.slice (some ⟨g,0,none⟩) n cap,.int .i64 (a : Int),.int .i64 (m : Int),.int .i64 (b : Int),.func (.func 189) #[] #[]] w (SortPost g n w (SortIs kf n d a b)) := by
 have HR := LH hr
 have HC := LH hcmp
 have HP := LH hp
 have HS := LH hs
 have HI := LH hris
 have hlmb : m < b := by have := hmb.out; omega
 have h1 : ((m : Int) - (a : Int) == 1) = false := by rw [beq_eq_false_iff_ne]; omega
 have h2 : ((b : Int) - (m : Int) == 1) = true := by have := hmb.out; rw [beq_iff_eq]; omega
 clear hr hcmp hp hs hris
 go_enter Tryz.func222,Tryz.ntmps222
 go_wp2
 go_loopw [14,15] (fun s10 s11 wr => ∃ (i j : Nat),s10 = .int .i64 i /\ s11 = .int .i64 j /\ Hid (HiIn kf d a m i j) /\ Hid (Rw wr g n d) /\ Hid (Only g w wr)) (fun s t _ => (intOf t).toNat - (intOf s).toNat)
 case atStart => exact ⟨a,m,rfl,rfl,HiIn.start kf d a m (by omega),HR,Only.refl _ _⟩
 case round =>
  obtain ⟨i,j,rfl,rfl,KI,KR,KO⟩ := hrel
  have i1 := KI.out.1
  have i2 := KI.out.2.1
  have i3 := KI.out.2.2.1
  by_cases hlt : i < j
  ·obtain ⟨h,hh⟩ : ∃ h : Nat,h = (i + j) / 2 := ⟨_,rfl⟩
   have hh1 : i <= h := by omega
   have hh2 : h < j := by omega
   have hh3 : ((i : Int) + (j : Int)) / 2 = (h : Int) := by omega
   clear hh
   have c1 := KR.out.cell m (by omega)
   have c2 := KR.out.cell h (by omega)
   obtain ⟨c,hc,hcall⟩ := HC.out.at KO.out HP.out (i := m) (j := h) (by omega) (by omega)
   obtain ⟨x,hx⟩ : ∃ x,x = d m := ⟨_,rfl⟩
   obtain ⟨y,hy⟩ : ∃ y,y = d h := ⟨_,rfl⟩
   rw [<- hx,<- hy] at hc hcall
   rw [<- hx] at c1
   rw [<- hy] at c2
   have HX := LH hx
   have HY := LH hy
   clear hx hy
   by_cases hk : kf x < kf y
   ·have h0 : decide (c < 0) = true := by rw [hc]; simpa using hk
    have HK := LH hk
    clear hc hk
    go_wp2
    go_quiet ((go_at_call 189; exact quiet_cmp (hcall _)))
    clear hcall
    go_wp2
    go_roundw
    case rel => exact ⟨i,h,rfl,rfl,KI.out.down HS.out hh1 hh2 (by rw [<- HX.out,<- HY.out]; exact HK.out),KR.out.drewN _,KO.out.trans (only_drewN (Only.refl _ _) _)⟩
    case measure => simp [intOf]; omega
   ·have h0 : decide (c < 0) = false := by rw [hc]; simpa using hk
    have HK := LH hk
    clear hc hk
    go_wp2
    go_quiet ((go_at_call 189; exact quiet_cmp (hcall _)))
    clear hcall
    go_wp2
    go_roundw
    case rel => exact ⟨h + 1,j,by go_num,rfl,KI.out.up HS.out hh1 hh2 (by rw [<- HX.out,<- HY.out]; exact HK.out),KR.out.drewN _,KO.out.trans (only_drewN (Only.refl _ _) _)⟩
    case measure => simp [intOf]; omega
  ·obtain rfl : i = j := by omega
   go_wp2
   go_loopw [17] (fun s13 wx => ∃ k : Nat,i <= k /\ k <= m /\ s13 = .int .i64 k /\ Hid (Rw wx g n (St.shr d m k)) /\ Hid (St.Swaps a b d (St.shr d m k)) /\ Hid (Only g w wx)) (fun s _ => (intOf s).toNat)
   case atStart => exact ⟨m,by omega,Nat.le_refl _,rfl,by show Rw _ _ _ _; rw [St.shr_zero]; exact KR.out,by show St.Swaps _ _ _ _; rw [St.shr_zero]; exact .refl _,KO⟩
   case round =>
    clear KR KO
    obtain ⟨k,hk1,hk2,rfl,KR,KS,KO⟩ := hrel
    by_cases hlt2 : i < k
    ·have c1 := KR.out.cell k (by omega)
     have c2 := KR.out.cell (k - 1) (by omega)
     have f1 := KR.out.free k (by omega)
     have f2 := KR.out.free (k - 1) (by omega)
     obtain ⟨x,hx⟩ : ∃ x,x = St.shr d m k k := ⟨_,rfl⟩
     obtain ⟨y,hy⟩ : ∃ y,y = St.shr d m k (k - 1) := ⟨_,rfl⟩
     rw [<- hx] at c1
     rw [<- hy] at c2
     have HX := LH hx
     have HY := LH hy
     have hne : ¬ k = k - 1 := by omega
     clear hx hy
     go_wp2
     go_region
     go_wp2
     all_goals
      go_roundw
      case rel =>
       have st := row_swap_on KR.out KO.out 1 k (k - 1) x y HX.out HY.out (by omega) (by omega) (by omega)
       exact ⟨k - 1,by omega,by omega,by go_num,by show Rw _ _ _ _; rw [St.shr_succ _ _ _ hk2 (by omega)]; exact st.1,by show St.Swaps _ _ _ _; rw [St.shr_succ _ _ _ hk2 (by omega)]; exact .step KS.out (by omega) (by omega) (by omega) (by omega),st.2⟩
      case measure => simp [intOf]; omega
    ·obtain rfl : i = k := by omega
     go_wp2
     go_end0
     exact ⟨rfl,_,KR.out,KO.out,KI.out.done hmb.out HS.out HI.out hbn KS.out⟩
end
section
namespace Lm
def ins {α : Type} (k : α -> Nat) (x : α) : List α -> List α
 | [] => [x]
 | y :: r => if k x < k y then x :: y :: r else y :: ins k x r
def isrt {α : Type} (k : α -> Nat) (l : List α) : List α := l.foldl (fun s x => ins k x s) []
theorem ins_perm {α : Type} (k : α -> Nat) (x : α) : ∀ l : List α,(ins k x l).Perm (x :: l)
 | [] => List.Perm.refl _
 | y :: r => by
  unfold ins
  by_cases h : k x < k y
  ·rw [if_pos h]
  ·rw [if_neg h]; exact ((ins_perm k x r).cons y).trans (List.Perm.swap x y r)
theorem ins_up {α : Type} (k : α -> Nat) (x : α) : ∀ l : List α,Up k l -> Up k (ins k x l)
 | [],_ => List.pairwise_singleton _ _
 | y :: r,h => by
  have h1 := List.pairwise_cons.1 h
  unfold ins
  by_cases hk : k x < k y
  ·rw [if_pos hk]
   refine List.pairwise_cons.2 ⟨fun z hz => ?_,h⟩
   rcases List.mem_cons.1 hz with rfl | hz
   ·omega
   ·have := h1.1 z hz; omega
  ·rw [if_neg hk]
   refine List.pairwise_cons.2 ⟨fun z hz => ?_,ins_up k x r h1.2⟩
   rcases List.mem_cons.1 ((ins_perm k x r).mem_iff.1 hz) with rfl | hz
   ·omega
   ·exact h1.1 z hz
theorem fold_perm {α : Type} (k : α -> Nat) : ∀ (l s : List α),(l.foldl (fun s x => ins k x s) s).Perm (l ++ s)
 | [],s => List.Perm.refl _
 | x :: l,s => by
  rw [List.foldl_cons]
  exact (fold_perm k l (ins k x s)).trans (((ins_perm k x s).append_left l).trans List.perm_middle)
theorem fold_up {α : Type} (k : α -> Nat) : ∀ (l s : List α),Up k s -> Up k (l.foldl (fun s x => ins k x s) s)
 | [],_,h => h
 | x :: l,s,h => by rw [List.foldl_cons]; exact fold_up k l _ (ins_up k x s h)
theorem isrt_perm {α : Type} (k : α -> Nat) (l : List α) : (isrt k l).Perm l := by have := fold_perm k l []; rwa [List.append_nil] at this
theorem isrt_up {α : Type} (k : α -> Nat) (l : List α) : Up k (isrt k l) := fold_up k l [] List.Pairwise.nil
theorem isrt_length {α : Type} (k : α -> Nat) (l : List α) : (isrt k l).length = l.length := (isrt_perm k l).length_eq
section Map
variable {α β : Type} (k : α -> Nat) (k' : β -> Nat) (f : α -> β) (hf : ∀ x y,k' (f x) < k' (f y) ↔ k x < k y)
include hf
variable (ad : α -> α -> α) (ad' : β -> β -> β) (ha : ∀ x y,f (ad x y) = ad' (f x) (f y))
include ha
end Map
theorem sm_map {α β : Type} (c : β -> Nat) (f : α -> β) (l : List α) : sm c (l.map f) = sm (fun x => c (f x)) l := by simp [sm,Function.comp_def]
theorem sm_congr {α : Type} {c d : α -> Nat} : ∀ {l : List α},(∀ x ∈ l,c x = d x) -> sm c l = sm d l
 | [],_ => rfl
 | x :: l,h => by rw [sm_cons,sm_cons,h x (by simp),sm_congr fun y hy => h y (by simp [hy])]
theorem sm_mul {α : Type} (c : α -> Nat) (m : Nat) (l : List α) : sm (fun x => m * c x) l = m * sm c l := by
 induction l with
 | nil => rfl
 | cons x l ih => rw [sm_cons,sm_cons,ih,Nat.mul_add]
theorem sm_le {α : Type} {c d : α -> Nat} : ∀ {l : List α},(∀ x ∈ l,c x <= d x) -> sm c l <= sm d l
 | [],_ => Nat.le_refl _
 | x :: l,h => by
  have h1 := h x (by simp)
  have h2 : sm c l <= sm d l := sm_le fun y hy => h y (by simp [hy])
  rw [sm_cons,sm_cons]; omega
theorem sm_take_mono {α : Type} (c : α -> Nat) : ∀ (l : List α) (s t : Nat),s <= t -> sm c (l.take s) <= sm c (l.take t)
 | [],s,t,_ => by simp
 | x :: l,s,t,h => by
  cases s with
  | zero => simp [sm_nil]
  | succ s =>
   cases t with
   | zero => omega
   | succ t =>
    have := sm_take_mono c l s t (by omega)
    rw [List.take_succ_cons,List.take_succ_cons,sm_cons,sm_cons]; omega
theorem shift {α : Type} (k : α -> Nat) (x : α) : ∀ (S : List α) (y : α) (t : Nat),Up k (y :: S) -> k x <= k y -> t <= S.length -> k x + sm k ((y :: S).take t) <= sm k ((y :: S).take (t + 1))
 | S,y,0,_,hx,_ => by simp [sm,hx]
 | [],y,t + 1,_,_,ht => by simp at ht
 | z :: S,y,t + 1,hu,hx,ht => by
  have h1 := List.pairwise_cons.1 hu
  have := shift k x S z t h1.2 (Nat.le_trans hx (h1.1 z (by simp))) (by simpa using ht)
  rw [List.take_succ_cons (i := t),List.take_succ_cons (i := t + 1),sm_cons,sm_cons]; omega
theorem mrg_least {α : Type} (k : α -> Nat) : ∀ a b : List α,Up k a -> Up k b -> ∀ i j,i <= a.length -> j <= b.length -> sm k ((mrg k a b).take (i + j)) <= sm k (a.take i) + sm k (b.take j) := by
 refine mrg_ind k ?_ ?_ ?_ ?_
 ·intro b _ _ i j hi _
  have : i = 0 := by simpa using hi
  subst this
  rw [mrg_nil_left,Nat.zero_add]; simp [sm_nil]
 ·intro a _ _ i j _ hj
  have : j = 0 := by simpa using hj
  subst this
  rw [mrg_nil_right,Nat.add_zero]; simp [sm_nil]
 ·intro x a y b h ih ha hb i j hi hj
  have h1 := List.pairwise_cons.1 ha
  rw [mrg_cons,if_neg h]
  cases i with
  | succ i =>
   have := ih h1.2 hb i j (by simpa using hi) hj
   rw [show i + 1 + j = (i + j) + 1 by omega,List.take_succ_cons,List.take_succ_cons,sm_cons,sm_cons]; omega
  | zero =>
   cases j with
   | zero => simp [sm_nil]
   | succ j =>
    have g1 := ih h1.2 hb 0 j (Nat.zero_le _) (by omega)
    have g2 := shift k x b y j hb (by omega) (by simpa using hj)
    rw [Nat.zero_add,List.take_zero,sm_nil] at g1
    rw [Nat.zero_add,List.take_succ_cons,sm_cons,List.take_zero,sm_nil]; omega
 ·intro x a y b h ih ha hb i j hi hj
  have h1 := List.pairwise_cons.1 hb
  rw [mrg_cons,if_pos h]
  cases j with
  | succ j =>
   have := ih ha h1.2 i j hi (by simpa using hj)
   rw [show i + (j + 1) = (i + j) + 1 by omega,List.take_succ_cons,List.take_succ_cons,sm_cons,sm_cons]; omega
  | zero =>
   cases i with
   | zero => simp [sm_nil]
   | succ i =>
    have g1 := ih ha h1.2 i 0 (by omega) (Nat.zero_le _)
    have g2 := shift k y a x i ha (by omega) (by simpa using hi)
    rw [Nat.add_zero,List.take_zero,sm_nil] at g1
    rw [Nat.add_zero,List.take_succ_cons,sm_cons,List.take_zero,sm_nil]; omega
def sumTo (f : Nat -> Nat) : Nat -> Nat
 | 0 => 0
 | n + 1 => sumTo f n + f n
theorem sumTo_congr {f g : Nat -> Nat} {n : Nat} (h : ∀ i,i < n -> f i = g i) : sumTo f n = sumTo g n := by
 induction n with
 | zero => rfl
 | succ n ih => simp only [sumTo]; rw [ih fun i hi => h i (by omega),h n (by omega)]
theorem sumTo_le {f g : Nat -> Nat} {n : Nat} (h : ∀ i,i < n -> f i <= g i) : sumTo f n <= sumTo g n := by
 induction n with
 | zero => exact Nat.le_refl _
 | succ n ih => have h1 := ih fun i hi => h i (by omega); have h2 := h n (by omega); simp only [sumTo]; omega
theorem sumTo_add (f g : Nat -> Nat) (n : Nat) : sumTo (fun i => f i + g i) n = sumTo f n + sumTo g n := by
 induction n with
 | zero => rfl
 | succ n ih => simp only [sumTo,ih]; omega
theorem sumTo_const (c n : Nat) : sumTo (fun _ => c) n = n * c := by
 induction n with
 | zero => simp [sumTo]
 | succ n ih => simp only [sumTo,ih,Nat.succ_mul]
def yy (t : Nat -> Nat) : Nat -> Nat
 | 0 => t 0
 | j + 1 => t (j + 1) + yy t j / 2
theorem opt {α : Type} (k : α -> Nat) (ad : α -> α -> α) (hk : ∀ x y,k (ad x y) = k x + k y) (S : List α) (hS : Up k S) (t : Nat -> Nat) (ht : ∀ j,t j <= S.length) (j : Nat) :
  yy t j <= (lvl k ad S j).length /\ sm k ((lvl k ad S j).take (yy t j)) <= sumTo (fun i => sm k (S.take (t i))) (j + 1) := by
 induction j with
 | zero => exact ⟨ht 0,by simp [sumTo,lvl,yy]⟩
 | succ j ih =>
  refine ⟨by rw [lvl_length]; have := ht (j + 1); simp only [yy]; omega,?_⟩
  have h1 := mrg_least k S (prs ad (lvl k ad S j)) hS (prs_up k ad hk _ (lvl_up k ad hk S hS j)) (t (j + 1)) (yy t j / 2) (ht _) (by rw [prs_length]; omega)
  rw [prs_take,sm_prs ad k hk _ (by rw [List.length_take]; omega)] at h1
  have h2 := sm_take_mono k (lvl k ad S j) (2 * (yy t j / 2)) (yy t j) (by omega)
  rw [sumTo]
  simp only [lvl,yy]
  omega
theorem yy_pow (t : Nat -> Nat) (j : Nat) : sumTo (fun i => t i * 2 ^ i) (j + 1) + 1 <= yy t j * 2 ^ j + 2 ^ j := by
 induction j with
 | zero => simp [sumTo,yy]
 | succ j ih =>
  rw [sumTo]
  simp only [yy]
  have h1 : yy t j * 2 ^ j <= (yy t j / 2) * 2 ^ (j + 1) + 2 ^ j := by
   have : yy t j <= yy t j / 2 * 2 + 1 := by omega
   have := Nat.mul_le_mul_right (2 ^ j) this
   rw [Nat.add_mul,Nat.one_mul,Nat.mul_assoc,Nat.mul_comm 2 (2 ^ j),<- Nat.pow_succ] at this
   exact this
  have h2 : 2 ^ (j + 1) = 2 ^ j + 2 ^ j := by rw [Nat.pow_succ]; omega
  rw [Nat.add_mul]
  generalize yy t j / 2 * 2 ^ (j + 1) = u at *
  generalize t (j + 1) * 2 ^ (j + 1) = v at *
  generalize yy t j * 2 ^ j = x at *
  omega
theorem ins_take {α : Type} (k : α -> Nat) (x : α) : ∀ (S : List α) (c : Nat),sm k ((ins k x S).take (c + 1)) <= k x + sm k (S.take c)
 | [],c => by simp [ins,sm]
 | y :: S,c => by
  unfold ins
  by_cases h : k x < k y
  ·rw [if_pos h,List.take_succ_cons,sm_cons]; exact Nat.le_refl _
  ·rw [if_neg h]
   cases c with
   | zero => simp [sm]; omega
   | succ c =>
    have := ins_take k x S c
    rw [List.take_succ_cons,List.take_succ_cons,sm_cons,sm_cons]; omega
theorem ins_take_same {α : Type} (k : α -> Nat) (x : α) : ∀ (S : List α) (c : Nat),Up k S -> c <= S.length -> sm k ((ins k x S).take c) <= sm k (S.take c)
 | [],c,_,h => by
  have : c = 0 := by simpa using h
  subst this
  simp [sm]
 | y :: S,c,hu,hc => by
  unfold ins
  by_cases h : k x < k y
  ·rw [if_pos h]
   cases c with
   | zero => simp [sm]
   | succ c =>
    rw [List.take_succ_cons,sm_cons]
    exact shift k x S y c hu (by omega) (by simpa using hc)
  ·rw [if_neg h]
   cases c with
   | zero => simp [sm]
   | succ c =>
    have := ins_take_same k x S c (List.pairwise_cons.1 hu).2 (by simpa using hc)
    rw [List.take_succ_cons,List.take_succ_cons,sm_cons,sm_cons]; omega
def cn (q : Nat -> Bool) : List (Nat × Nat) -> Nat
 | [] => 0
 | p :: P => (if q p.2 then 1 else 0) + cn q P
def co (q : Nat -> Bool) : List (Nat × Nat) -> Nat
 | [] => 0
 | p :: P => (if q p.2 then p.1 else 0) + co q P
theorem cn_le (q : Nat -> Bool) : ∀ P,cn q P <= P.length
 | [] => Nat.le_refl _
 | p :: P => by have := cn_le q P; simp only [cn,List.length_cons]; split <;> omega
theorem least_fold (q : Nat -> Bool) : ∀ (P : List (Nat × Nat)) (S : List Nat) (c T : Nat),Up (fun x => x) S -> c <= S.length -> sm (fun x => x) (S.take c) <= T ->
  sm (fun x => x) (((P.map Prod.fst).foldl (fun s x => ins (fun x => x) x s) S).take (c + cn q P)) <= T + co q P
 | [],S,c,T,_,_,h => by simpa [cn,co] using h
 | p :: P,S,c,T,hu,hc,h => by
  rw [List.map_cons,List.foldl_cons]
  have hu2 := ins_up (fun x => x) p.1 S hu
  have hl : (ins (fun x => x) p.1 S).length = S.length + 1 := by rw [(ins_perm _ p.1 S).length_eq]; rfl
  simp only [cn,co]
  by_cases hq : q p.2
  ·rw [if_pos hq,if_pos hq]
   have := least_fold q P _ (c + 1) (T + p.1) hu2 (by omega) (by have := ins_take (fun x => x) p.1 S c; omega)
   rw [show c + (1 + cn q P) = c + 1 + cn q P by omega,show T + (p.1 + co q P) = T + p.1 + co q P by omega]
   exact this
  ·rw [if_neg hq,if_neg hq]
   have := least_fold q P _ c T hu2 (by omega) (by have := ins_take_same (fun x => x) p.1 S c hu hc; omega)
   rw [Nat.zero_add,Nat.zero_add]
   exact this
theorem least_of (q : Nat -> Bool) (P : List (Nat × Nat)) : sm (fun x => x) ((isrt (fun x => x) (P.map Prod.fst)).take (cn q P)) <= co q P := by
 have := least_fold q P [] 0 0 List.Pairwise.nil (Nat.zero_le _) (by simp [sm])
 rwa [Nat.zero_add,Nat.zero_add] at this
theorem co_levels (M : Nat) : ∀ P : List (Nat × Nat),(∀ p ∈ P,p.2 <= M) -> sumTo (fun j => co (fun l => decide (M - j <= l)) P) M = sm (fun p => p.1 * p.2) P
 | [],_ => by simp [co,sm,sumTo_const]
 | p :: P,h => by
  have h1 := co_levels M P fun x hx => h x (by simp [hx])
  have h2 := h p (by simp)
  simp only [co]
  rw [sumTo_add,h1,sm_cons]
  congr 1
  have : ∀ t,t <= M -> sumTo (fun j => if decide (M - j <= p.2) = true then p.1 else 0) t = p.1 * (t - (M - p.2)) := by
   intro t
   induction t with
   | zero => intro _; simp [sumTo]
   | succ t ih =>
    intro ht
    simp only [sumTo]
    rw [ih (by omega)]
    by_cases hh : M - t <= p.2
    ·rw [if_pos (by simpa using hh),show t + 1 - (M - p.2) = (t - (M - p.2)) + 1 by omega,Nat.mul_succ]
    ·rw [if_neg (by simpa using hh),show t + 1 - (M - p.2) = 0 by omega,show t - (M - p.2) = 0 by omega,Nat.add_zero]
  rw [this M (Nat.le_refl _),show M - (M - p.2) = p.2 by omega]
theorem cn_levels (M : Nat) : ∀ P : List (Nat × Nat),(∀ p ∈ P,p.2 <= M) -> sumTo (fun j => cn (fun l => decide (M - j <= l)) P * 2 ^ j) M + sm (fun p => 2 ^ (M - p.2)) P = P.length * 2 ^ M
 | [],_ => by simp [cn,sm,sumTo_const]
 | p :: P,h => by
  have h1 := cn_levels M P fun x hx => h x (by simp [hx])
  have h2 := h p (by simp)
  simp only [cn,Nat.add_mul]
  rw [sumTo_add,sm_cons,List.length_cons,Nat.succ_mul]
  have : ∀ t,t <= M -> sumTo (fun j => (if decide (M - j <= p.2) = true then 1 else 0) * 2 ^ j) t + 2 ^ min t (M - p.2) = 2 ^ t := by
   intro t
   induction t with
   | zero => intro _; simp [sumTo]
   | succ t ih =>
    intro ht
    have ih := ih (by omega)
    simp only [sumTo]
    have hp : 2 ^ (t + 1) = 2 ^ t + 2 ^ t := by rw [Nat.pow_succ]; omega
    by_cases hh : M - t <= p.2
    ·rw [if_pos (by simpa using hh),Nat.min_eq_right (by omega)]
     rw [Nat.min_eq_right (by omega)] at ih
     omega
    ·rw [if_neg (by simpa using hh),Nat.min_eq_left (by omega)]
     rw [Nat.min_eq_left (by omega)] at ih
     omega
  have := this M (Nat.le_refl _)
  rw [Nat.min_eq_right (by omega)] at this
  omega
theorem best (M : Nat) (hM : 1 <= M) (P : List (Nat × Nat)) (h1 : ∀ p ∈ P,p.2 <= M) (h2 : sm (fun p => 2 ^ (M - p.2)) P <= 2 ^ M) :
  sm (fun x => x) ((lvl (fun x => x) (fun x y => x + y) (isrt (fun x => x) (P.map Prod.fst)) (M - 1)).take (2 * P.length - 2)) <= sm (fun p => p.1 * p.2) P := by
 obtain ⟨J,rfl⟩ : ∃ J,M = J + 1 := ⟨M - 1,by omega⟩
 rw [Nat.add_sub_cancel]
 have hlen : (isrt (fun x : Nat => x) (P.map Prod.fst)).length = P.length := by rw [isrt_length,List.length_map]
 have ho := (opt (fun x => x) (fun x y => x + y) (fun _ _ => rfl) (isrt (fun x => x) (P.map Prod.fst)) (isrt_up _ _) (fun j => cn (fun l => decide (J + 1 - j <= l)) P) (fun j => by rw [hlen]; exact cn_le _ _) J).2
 have hc := cn_levels (J + 1) P h1
 have hy := yy_pow (fun j => cn (fun l => decide (J + 1 - j <= l)) P) J
 have hco := co_levels (J + 1) P h1
 have hle : sumTo (fun i => sm (fun x => x) ((isrt (fun x => x) (P.map Prod.fst)).take (cn (fun l => decide (J + 1 - i <= l)) P))) (J + 1) <= sumTo (fun j => co (fun l => decide (J + 1 - j <= l)) P) (J + 1) :=
  sumTo_le fun i _ => least_of _ _
 generalize hY : yy (fun j => cn (fun l => decide (J + 1 - j <= l)) P) J = Y at *
 have hY2 : 2 * P.length - 2 <= Y := by
  refine Nat.le_of_not_lt fun hlt => ?_
  have e1 : 2 ^ (J + 1) = 2 * 2 ^ J := by rw [Nat.pow_succ,Nat.mul_comm]
  have e2 : P.length * 2 ^ (J + 1) = 2 * P.length * 2 ^ J := by rw [e1,Nat.mul_comm 2 P.length,Nat.mul_assoc]
  have e3 : (Y + 3) * 2 ^ J <= 2 * P.length * 2 ^ J := Nat.mul_le_mul_right _ (by omega)
  rw [Nat.add_mul] at e3
  generalize Y * 2 ^ J = u at *
  generalize 2 * P.length * 2 ^ J = v at *
  generalize 2 ^ J = z at *
  omega
 have hm := sm_take_mono (fun x : Nat => x) (lvl (fun x => x) (fun x y => x + y) (isrt (fun x => x) (P.map Prod.fst)) J) _ _ hY2
 omega
end Lm
end
end Go.Proofs.YtmgpcbjciioiaaaGreatDoor.Ls
namespace Go.Proofs.YtmgpcbjciioiaaaGreatDoor
set_option maxRecDepth 100000
set_option maxHeartbeats 8000000
section
open Go.RowKit
theorem grow_nil (m : Nat) (h0 : 0 < m) (hm : m <= 1000) (w : World) : Calls Tryz.prog 108 #[.slice none 0 0,.int .i64 (m : Int)] w fun e w' => ∃ cap,e = .returned (.slice (some ⟨w.heap.size,0,none⟩) 0 cap) /\ Own w.heap.size w' (.slice (some ⟨w.heap.size,0,none⟩) 0 cap) [] /\ Below w.heap.size w w' := by
 obtain ⟨i0,hi,hz0,hz1,hz2⟩ := info_parts Tryz.infoInt
 have hr := Lib.run_append_nil_zeros (P := Tryz.prog) w 57 3 57 3 i0 (.int .i64 0) .i64 .i64 Tryz.underlying57 Tryz.underlying3 hi hz0 m h0 (by rw [hz1]; decide) (by omega) (by rw [hz2]; omega)
 have hge := grownCap_ge w m 0 3
 have hcm : grownCap w m 0 3 <= maxLen := grownCap_le_maxLen w m 0 3 (by unfold maxLen; omega)
 generalize grownCap w m 0 3 = cp at hr hge hcm
 have HR := LH hr
 have HCM := LH hcm
 have HC := LH hge
 have hle1 : (m : Int) <= (cp : Int) := by omega
 have hsz : (Builtin.zeroCells (Value.int .i64 0).cells m ++ Builtin.zeroCells (Value.int .i64 0).cells (cp - m)).size = cp := by
  rw [Array.size_append,size_zeroCells,size_zeroCells]; simp [Value.cells]; omega
 have HSZ := LH hsz
 generalize Builtin.zeroCells (Value.int .i64 0).cells m ++ Builtin.zeroCells (Value.int .i64 0).cells (cp - m) = cells at HR HSZ
 clear hr hcm hsz hge
 go_enter Tryz.func108,Tryz.ntmps108
 go_wp2_with (at_builtin; refine Lib.wpList_append_run _ rfl (.tmp 20) (.tmp 21) _ _ rfl _ _ rfl rfl _ _ HR.out ?_)
 go_ret
 refine ⟨cp,rfl,⟨rfl,Or.inr ⟨w.heap.size,cp,cells,rfl,Nat.le_refl _,?_,Nat.zero_le _,HCM.out,by rw [HSZ.out]; omega,by simp [vn]⟩⟩,below_drewN (below1 w _) 1⟩
 exact Has.new w _
theorem Own.grown {w w' : World} {base : Nat} {v : Value} {xs : List Nat} (h : Own base w v xs) (hg : w.grownBy w' v.ownBlock) {g : Nat} (hlt : g < base) (hw : base <= w.heap.size) : w'.heap[g]? = w.heap[g]? :=
 hg.block g (by omega) (fun e => by have := h.block g e.symm; omega)
theorem concat4 (C : Nat) (g0 g1 g2 g3 n0 n1 n2 n3 q0 q1 q2 q3 : Nat) (w : World) (hC : Has w C (.cells #[.slice (some ⟨g0,0,none⟩) n0 n0,.slice (some ⟨g1,0,none⟩) n1 n1,.slice (some ⟨g2,0,none⟩) n2 n2,.slice (some ⟨g3,0,none⟩) n3 n3] 57 (0,0)))
  (h0 : Has w g0 (nums (List.replicate n0 q0))) (h1 : Has w g1 (nums (List.replicate n1 q1))) (h2 : Has w g2 (nums (List.replicate n2 q2))) (h3 : Has w g3 (nums (List.replicate n3 q3)))
  (p0 : 0 < n0) (p1 : 0 < n1) (p2 : 0 < n2) (p3 : 0 < n3) (l0 : n0 <= 200) (l1 : n1 <= 200) (l2 : n2 <= 200) (l3 : n3 <= 200) :
  Calls Tryz.prog 66 #[.slice (some ⟨C,0,none⟩) 4 4] w fun e w' => ∃ v,e = .returned v /\ Own w.heap.size w' v (List.replicate n0 q0 ++ List.replicate n1 q1 ++ List.replicate n2 q2 ++ List.replicate n3 q3) /\ Below w.heap.size w w' := by
 have c0 : w.cell? ⟨C,0,none⟩ = some (.slice (some ⟨g0,0,none⟩) n0 n0) := by rw [hC.cell]; rfl
 have c1 : w.cell? ⟨C,1,none⟩ = some (.slice (some ⟨g1,0,none⟩) n1 n1) := by rw [hC.cell]; rfl
 have c2 : w.cell? ⟨C,2,none⟩ = some (.slice (some ⟨g2,0,none⟩) n2 n2) := by rw [hC.cell]; rfl
 have c3 : w.cell? ⟨C,3,none⟩ = some (.slice (some ⟨g3,0,none⟩) n3 n3) := by rw [hC.cell]; rfl
 have HC := LH hC
 have H0 := LH h0
 have H1 := LH h1
 have H2 := LH h2
 have H3 := LH h3
 clear hC h0 h1 h2 h3
 go_enter Tryz.func66,Tryz.ntmps66
 go_wp2_with fail
 refine wp_loop_rounds 5 ?_
 rw [rounds_succ]
 go_wp2_with fail
 rw [rounds_succ]
 go_wp2_with fail
 rw [rounds_succ]
 go_wp2_with fail
 rw [rounds_succ]
 go_wp2_with fail
 rw [rounds_succ]
 go_wp2_with fail
 have hgr := grow_nil (n0 + n1 + n2 + n3) (by omega) (by omega) w
 push_cast at hgr
 refine hgr.mono ?_
 clear hgr
 rintro e w1 ⟨cap,rfl,hO0,hb0⟩
 have HCl := LH HC.out.lt
 have HO0 := LH hO0
 have HB0 := LH hb0
 obtain ⟨v0,hv0⟩ : ∃ v0,v0 = Value.slice (some ⟨w.heap.size,0,none⟩) 0 cap := ⟨_,rfl⟩
 rw [<- hv0] at HO0 ⊢
 clear c0 c1 c2 c3 hO0 hb0 hv0
 go_wp2_with fail
 refine wp_loop_rounds 5 ?_
 have hC0 := HC.out.below HB0.out HCl.out
 have c0 : w1.cell? ⟨C,0,none⟩ = some (.slice (some ⟨g0,0,none⟩) n0 n0) := by rw [hC0.cell]; rfl
 obtain ⟨v1,w2,hrun,hO,hg⟩ := nums_append HO0.out 57 g0 n0 n0 (List.replicate n0 q0) (H0.out.below HB0.out H0.out.lt) (by simp) p0 (by simp; omega) HB0.out.size
 have HR := LH hrun
 have HB1 := LH (HB0.out.grown hg HB0.out.size (fun q hq => HO0.out.block q hq))
 have HO1 := LH hO
 clear hC0 hrun hg hO
 rw [rounds_succ]
 go_wp2_with (at_builtin; (refine wpList_append_is rfl (.tmp 31) (.tmp 32) 57 rfl _ _ _ _ rfl rfl HR.out ?_))
 clear HR c0 HB0 HO0
 have hC1 := HC.out.below HB1.out HCl.out
 have c1 : w2.cell? ⟨C,1,none⟩ = some (.slice (some ⟨g1,0,none⟩) n1 n1) := by rw [hC1.cell]; rfl
 obtain ⟨v2,w3,hrun,hO,hg⟩ := nums_append HO1.out 57 g1 n1 n1 (List.replicate n1 q1) (H1.out.below HB1.out H1.out.lt) (by simp) p1 (by simp; omega) HB1.out.size
 have HR := LH hrun
 have HB2 := LH (HB1.out.grown hg HB1.out.size (fun q hq => HO1.out.block q hq))
 have HO2 := LH hO
 clear hC1 hrun hg hO
 rw [rounds_succ]
 go_wp2_with (at_builtin; (refine wpList_append_is rfl (.tmp 31) (.tmp 32) 57 rfl _ _ _ _ rfl rfl HR.out ?_))
 clear HR c1 HB1 HO1
 have hC2 := HC.out.below HB2.out HCl.out
 have c2 : w3.cell? ⟨C,2,none⟩ = some (.slice (some ⟨g2,0,none⟩) n2 n2) := by rw [hC2.cell]; rfl
 obtain ⟨v3,w4,hrun,hO,hg⟩ := nums_append HO2.out 57 g2 n2 n2 (List.replicate n2 q2) (H2.out.below HB2.out H2.out.lt) (by simp) p2 (by simp; omega) HB2.out.size
 have HR := LH hrun
 have HB3 := LH (HB2.out.grown hg HB2.out.size (fun q hq => HO2.out.block q hq))
 have HO3 := LH hO
 clear hC2 hrun hg hO
 rw [rounds_succ]
 go_wp2_with (at_builtin; (refine wpList_append_is rfl (.tmp 31) (.tmp 32) 57 rfl _ _ _ _ rfl rfl HR.out ?_))
 clear HR c2 HB2 HO2
 have hC3 := HC.out.below HB3.out HCl.out
 have c3 : w4.cell? ⟨C,3,none⟩ = some (.slice (some ⟨g3,0,none⟩) n3 n3) := by rw [hC3.cell]; rfl
 obtain ⟨v4,w5,hrun,hO,hg⟩ := nums_append HO3.out 57 g3 n3 n3 (List.replicate n3 q3) (H3.out.below HB3.out H3.out.lt) (by simp) p3 (by simp; omega) HB3.out.size
 have HR := LH hrun
 have HB4 := LH (HB3.out.grown hg HB3.out.size (fun q hq => HO3.out.block q hq))
 have HO4 := LH hO
 clear hC3 hrun hg hO
 rw [rounds_succ]
 go_wp2_with (at_builtin; (refine wpList_append_is rfl (.tmp 31) (.tmp 32) 57 rfl _ _ _ _ rfl rfl HR.out ?_))
 clear HR c3 HB3 HO3
 rw [rounds_succ]
 go_wp2_with fail
 go_ret
 exact ⟨_,rfl,by simpa using HO4.out,HB4.out⟩
end
section
open Go.RowKit
def Nat9 (w : World) (b off : Nat) (ys : List Nat) : Prop := b < w.heap.size /\ ∀ j,j < ys.length -> w.cell? ⟨b,off + j,none⟩ = some (.int .i64 ((ys[j]?.getD 0 : Nat) : Int))
theorem Nat9.later {w w' : World} {b off : Nat} {ys : List Nat} (h : Nat9 w b off ys) (hb : Below w.heap.size w w') : Nat9 w' b off ys := ⟨Nat.lt_of_lt_of_le h.1 hb.size,fun j hj => (hb.cell (p := ⟨b,off + j,none⟩) h.1).trans (h.2 j hj)⟩
theorem Nat9.below {w w' : World} {b off B : Nat} {ys : List Nat} (h : Nat9 w b off ys) (hb : Below B w w') (hB : b < B) (hs : w.heap.size <= w'.heap.size) : Nat9 w' b off ys := ⟨Nat.lt_of_lt_of_le h.1 hs,fun j hj => (hb.cell (p := ⟨b,off + j,none⟩) hB).trans (h.2 j hj)⟩
theorem nat_append {w : World} {base : Nat} {v : Value} {xs : List Nat} (hown : Own base w v xs) (ty : TypeId) (b off m cap : Nat) (ys : List Nat) (hg : Nat9 w b off ys) (hm : m = ys.length) (h1 : xs.length + m <= 100000) (hb : base <= w.heap.size) :
  ∃ v' w',(Builtin.append_ #[57,57] ty #[v,.slice (some ⟨b,off,none⟩) m cap]).run Tryz.prog w = .ok v' w' /\ Own base w' v' (xs ++ ys) /\ w.grownBy w' v.ownBlock := by
 subst hm
 obtain ⟨i0,hi,hz0,hz1,hz2⟩ := info_parts Tryz.infoInt
 obtain ⟨v',w',h1,h2,h3,_⟩ := run_append_own (P := Tryz.prog) (w := w) base 57 ty 3 i0 (.int .i64 0) 1 8 Tryz.underlying57 hi hz0 hz1 hz2 rfl (by decide) v xs.length (vn xs) hown ⟨b,off,none⟩ ys.length cap (vn ys) (by rw [vn_length]; omega)
  (fun j u hj => by
   have e : (⟨b,off,none⟩ : Addr).add j = ⟨b,off + j,none⟩ := by cases j <;> simp [Addr.add]
   have hj2 := (List.getElem?_eq_some_iff.1 hj).1
   rw [vn_length] at hj2
   rw [e,hg.2 j hj2]
   rw [vn_get,List.getElem?_eq_getElem hj2] at hj
   rw [List.getElem?_eq_getElem hj2]
   simpa using hj)
  (vn_one _) (by unfold maxLen; omega) (by omega) hb
 refine ⟨v',w',h1,?_,h3⟩
 unfold Own
 rw [List.length_append,vn_append]
 exact h2
theorem concat2 (C b0 o0 n0 k0 b1 o1 n1 k1 : Nat) (xs ys : List Nat) (w : World) (hC : Has w C (.cells #[.slice (some ⟨b0,o0,none⟩) n0 k0,.slice (some ⟨b1,o1,none⟩) n1 k1] 57 (0,0)))
  (h0 : Nat9 w b0 o0 xs) (h1 : Nat9 w b1 o1 ys) (e0 : n0 = xs.length) (e1 : n1 = ys.length) (p0 : 0 < n0) (p1 : 0 < n1) (l0 : n0 <= 400) (l1 : n1 <= 400) :
  Calls Tryz.prog 66 #[.slice (some ⟨C,0,none⟩) 2 2] w fun e w' => ∃ v,e = .returned v /\ Own w.heap.size w' v (xs ++ ys) /\ Below w.heap.size w w' := by
 have c0 : w.cell? ⟨C,0,none⟩ = some (.slice (some ⟨b0,o0,none⟩) n0 k0) := by rw [hC.cell]; rfl
 have c1 : w.cell? ⟨C,1,none⟩ = some (.slice (some ⟨b1,o1,none⟩) n1 k1) := by rw [hC.cell]; rfl
 have HC := LH hC
 have H0 := LH h0
 have H1 := LH h1
 have E0 := LH e0
 have E1 := LH e1
 clear hC h0 h1 e0 e1
 go_enter Tryz.func66,Tryz.ntmps66
 go_wp2_with fail
 refine wp_loop_rounds 3 ?_
 rw [rounds_succ]
 go_wp2_with fail
 rw [rounds_succ]
 go_wp2_with fail
 rw [rounds_succ]
 go_wp2_with fail
 have hgr := grow_nil (n0 + n1) (by omega) (by omega) w
 push_cast at hgr
 refine hgr.mono ?_
 clear hgr
 rintro e w1 ⟨cap,rfl,hO0,hb0⟩
 have HCl := LH HC.out.lt
 have HO0 := LH hO0
 have HB0 := LH hb0
 obtain ⟨v0,hv0⟩ : ∃ v0,v0 = Value.slice (some ⟨w.heap.size,0,none⟩) 0 cap := ⟨_,rfl⟩
 rw [<- hv0] at HO0 ⊢
 clear c0 c1 hO0 hb0 hv0
 go_wp2_with fail
 refine wp_loop_rounds 3 ?_
 have hC0 := HC.out.below HB0.out HCl.out
 have c0 : w1.cell? ⟨C,0,none⟩ = some (.slice (some ⟨b0,o0,none⟩) n0 k0) := by rw [hC0.cell]; rfl
 obtain ⟨v1,w2,hrun,hO,hg⟩ := nat_append HO0.out 57 b0 o0 n0 k0 xs (H0.out.below HB0.out H0.out.1 HB0.out.size) E0.out (by simp; omega) HB0.out.size
 have HR := LH hrun
 have HB1 := LH (HB0.out.grown hg HB0.out.size (fun q hq => HO0.out.block q hq))
 have HO1 := LH hO
 clear hC0 hrun hg hO
 rw [rounds_succ]
 go_wp2_with (at_builtin; (refine wpList_append_is rfl (.tmp 31) (.tmp 32) 57 rfl _ _ _ _ rfl rfl HR.out ?_))
 clear HR c0 HB0 HO0
 have hC1 := HC.out.below HB1.out HCl.out
 have c1 : w2.cell? ⟨C,1,none⟩ = some (.slice (some ⟨b1,o1,none⟩) n1 k1) := by rw [hC1.cell]; rfl
 obtain ⟨v2,w3,hrun,hO,hg⟩ := nat_append HO1.out 57 b1 o1 n1 k1 ys (H1.out.below HB1.out H1.out.1 HB1.out.size) E1.out (by simp [<- E0.out]; omega) HB1.out.size
 have HR := LH hrun
 have HB2 := LH (HB1.out.grown hg HB1.out.size (fun q hq => HO1.out.block q hq))
 have HO2 := LH hO
 clear hC1 hrun hg hO
 rw [rounds_succ]
 go_wp2_with (at_builtin; (refine wpList_append_is rfl (.tmp 31) (.tmp 32) 57 rfl _ _ _ _ rfl rfl HR.out ?_))
 clear HR c1 HB1 HO1
 rw [rounds_succ]
 go_wp2_with fail
 go_ret
 exact ⟨_,rfl,by simpa using HO2.out,HB2.out⟩
end
end Go.Proofs.YtmgpcbjciioiaaaGreatDoor
