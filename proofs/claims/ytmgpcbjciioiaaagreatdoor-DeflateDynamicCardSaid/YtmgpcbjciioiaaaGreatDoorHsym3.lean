import Derived.Test.YtmgpcbjciioiaaaGreatDoorHsym2
namespace Go.Proofs.YtmgpcbjciioiaaaGreatDoor
set_option maxRecDepth 100000
set_option maxHeartbeats 8000000
open Go.RowKit
def Mid (kf d : Nat -> Nat) (a m b mid s r : Nat) : Prop :=
 a <= s /\ s <= r /\ r <= m /\ r <= mid /\ mid + m <= b + s /\ (∀ c,c < s -> a <= c -> mid + m <= b + c -> kf (d c) <= kf (d (mid + m - 1 - c))) /\ (∀ c,r <= c -> c < m -> c < mid -> kf (d (mid + m - 1 - c)) < kf (d c))
theorem Mid.high (kf d : Nat -> Nat) (a m b mid : Nat) (_h1 : a < m) (h2 : m < b) (hm : mid = (a + b) / 2) (h : mid < m) : Mid kf d a m b mid (mid + m - b) mid :=
 ⟨by omega,by omega,by omega,by omega,by omega,fun c c1 c2 c3 => by omega,fun c c1 c2 c3 => by omega⟩
theorem Mid.low (kf d : Nat -> Nat) (a m b mid : Nat) (h1 : a < m) (_h2 : m < b) (hm : mid = (a + b) / 2) (h : ¬ mid < m) : Mid kf d a m b mid a m :=
 ⟨by omega,by omega,by omega,by omega,by omega,fun c c1 c2 c3 => by omega,fun c c1 c2 c3 => by omega⟩
theorem Mid.up {kf d : Nat -> Nat} {a m b mid s r c : Nat} (k : Mid kf d a m b mid s r) (h1 : St.Srt kf d a m) (h2 : St.Srt kf d m b) (_hmid : m < b) (g1 : s <= c) (g2 : c < r) (hge : ¬ kf (d (mid + m - 1 - c)) < kf (d c)) : Mid kf d a m b mid (c + 1) r := by
 obtain ⟨k1,k2,k3,k4,k5,k6,k7⟩ := k
 refine ⟨by omega,by omega,k3,k4,by omega,fun q q1 q2 q3 => ?_,k7⟩
 by_cases e : q = c
 ·rw [e]; omega
 ·have f1 := h1 q c q2 (by omega) (by omega)
  have f2 := h2 (mid + m - 1 - c) (mid + m - 1 - q) (by omega) (by omega) (by omega)
  omega
theorem Mid.down {kf d : Nat -> Nat} {a m b mid s r c : Nat} (k : Mid kf d a m b mid s r) (h1 : St.Srt kf d a m) (h2 : St.Srt kf d m b) (g1 : s <= c) (g2 : c < r) (hlt : kf (d (mid + m - 1 - c)) < kf (d c)) : Mid kf d a m b mid s c := by
 obtain ⟨k1,k2,k3,k4,k5,k6,k7⟩ := k
 refine ⟨k1,g1,by omega,by omega,k5,k6,fun q q1 q2 q3 => ?_⟩
 by_cases e : q = c
 ·rw [e]; exact hlt
 ·have f1 := h1 c q (by omega) (by omega) q2
  have f2 := h2 (mid + m - 1 - q) (mid + m - 1 - c) (by omega) (by omega) (by omega)
  omega
theorem sym_gen (g cap n a m b K : Nat) (kf : Nat -> Nat) (p : Nat -> Prop) (d : Nat -> Nat) (w : World) (hr : Rw w g n d) (hn : n <= 288) (hbn : b <= n) (ham : a + 1 < m) (hmb : m + 1 < b)
  (h1s : St.Srt kf d a m) (h2s : St.Srt kf d m b) (hris : St.Ris kf d n) (hp : ∀ i,i < n -> p (d i)) (hcmp : Cmps g kf p K w)
  (ih : ∀ (a' m' b' : Nat) (d' : Nat -> Nat) (w' : World),b' - a' < b - a -> a' < m' -> m' < b' -> b' <= n -> Rw w' g n d' -> St.Srt kf d' a' m' -> St.Srt kf d' m' b' -> St.Ris kf d' n -> (∀ i,i < n -> p (d' i)) -> Cmps g kf p K w' ->
   Calls Tryz.prog 231 #[.slice (some ⟨g,0,none⟩) n cap,.int .i64 (a' : Int),.int .i64 (m' : Int),.int .i64 (b' : Int),.func (.func 220) #[] #[.pointer (some ⟨K,0,none⟩)]] w' (SortPost g n w' (SortIs kf n d' a' b'))) :
  Calls Tryz.prog 231 #[.slice (some ⟨g,0,none⟩) n cap,.int .i64 (a : Int),.int .i64 (m : Int),.int .i64 (b : Int),.func (.func 220) #[] #[.pointer (some ⟨K,0,none⟩)]] w (SortPost g n w (SortIs kf n d a b)) := by
 have HR := LH hr
 have HC := LH hcmp
 have HP := LH hp
 have HS1 := LH h1s
 have HS2 := LH h2s
 have HI := LH hris
 have IH := LH ih
 have h1 : ((m : Int) - (a : Int) == 1) = false := by rw [beq_eq_false_iff_ne]; omega
 have h2 : ((b : Int) - (m : Int) == 1) = false := by rw [beq_eq_false_iff_ne]; omega
 obtain ⟨mid,hmid⟩ : ∃ mid : Nat,mid = (a + b) / 2 := ⟨_,rfl⟩
 have hm1 : ((a : Int) + (b : Int)) / 2 = (mid : Int) := by omega
 have hm2 : a < mid := by omega
 have hm3 : mid < b := by omega
 have HM := LH hmid
 clear hr hcmp hp h1s h2s hris ih hmid
 go_enter Tryz.func231,Tryz.ntmps231
 go_upto_if 140 with fail
 go_cut [20,21] (fun s20 s21 wx => ∃ s r : Nat,s20 = .int .i64 s /\ s21 = .int .i64 r /\ Hid (Mid kf d a m b mid s r) /\ wx = w)
 case first =>
  by_cases hlt : mid < m
  ·go_wp2_with fail
   go_meet
   exact ⟨mid + m - b,mid,by go_num,by go_num,Mid.high kf d a m b mid (by omega) (by omega) HM.out hlt,rfl⟩
  ·go_wp2_with fail
   go_meet
   exact ⟨a,m,by go_num,by go_num,Mid.low kf d a m b mid (by omega) (by omega) HM.out hlt,rfl⟩
 case rest =>
  obtain ⟨s0,r0,rfl,rfl,K0,rfl⟩ := hcut
  go_wp2_with fail
  go_loopw [20,21] (fun s20 s21 wr => ∃ (s r : Nat),s20 = .int .i64 s /\ s21 = .int .i64 r /\ Hid (Mid kf d a m b mid s r) /\ Hid (Rw wr g n d) /\ Hid (Only g wc wr)) (fun s t _ => (intOf t).toNat - (intOf s).toNat)
  case atStart => exact ⟨s0,r0,rfl,rfl,K0,HR,Only.refl _ _⟩
  case round =>
   clear K0
   obtain ⟨s,r,rfl,rfl,KI,KR,KO⟩ := hrel
   have i1 := KI.out.1
   have i2 := KI.out.2.1
   have i3 := KI.out.2.2.1
   have i4 := KI.out.2.2.2.1
   have i5 := KI.out.2.2.2.2.1
   by_cases hlt : s < r
   ·obtain ⟨h,hh⟩ : ∃ h : Nat,h = (s + r) / 2 := ⟨_,rfl⟩
    have hh1 : s <= h := by omega
    have hh2 : h < r := by omega
    have hh3 : ((s : Int) + (r : Int)) / 2 = (h : Int) := by omega
    clear hh
    have c1 := KR.out.cell (mid + m - 1 - h) (by omega)
    have c2 := KR.out.cell h (by omega)
    obtain ⟨c,hc,hcall⟩ := HC.out.at KO.out HP.out (i := mid + m - 1 - h) (j := h) (by omega) (by omega)
    obtain ⟨x,hx⟩ : ∃ x,x = d (mid + m - 1 - h) := ⟨_,rfl⟩
    obtain ⟨y,hy⟩ : ∃ y,y = d h := ⟨_,rfl⟩
    rw [<- hx,<- hy] at hc hcall
    rw [<- hx] at c1
    rw [<- hy] at c2
    have HX := LH hx
    have HY := LH hy
    clear hx hy
    by_cases hk : kf x < kf y
    ·have h0 : decide (c < 0) = true := by rw [hc]; simpa using hk
     have HK := LH hk
     clear hc hk
     go_wp2
     go_quiet ((go_at_call 220; exact quiet_cmp (hcall _)))
     clear hcall
     go_wp2
     go_roundw
     case rel => exact ⟨s,h,rfl,rfl,KI.out.down HS1.out HS2.out hh1 hh2 (by rw [<- HX.out,<- HY.out]; exact HK.out),KR.out.drewN _,KO.out.trans (only_drewN (Only.refl _ _) _)⟩
     case measure => simp [intOf]; omega
    ·have h0 : decide (c < 0) = false := by rw [hc]; simpa using hk
     have HK := LH hk
     clear hc hk
     go_wp2
     go_quiet ((go_at_call 220; exact quiet_cmp (hcall _)))
     clear hcall
     go_wp2
     go_roundw
     case rel => exact ⟨h + 1,r,by go_num,rfl,KI.out.up HS1.out HS2.out (by omega) hh1 hh2 (by rw [<- HX.out,<- HY.out]; exact HK.out),KR.out.drewN _,KO.out.trans (only_drewN (Only.refl _ _) _)⟩
     case measure => simp [intOf]; omega
   ·obtain rfl : s = r := by omega
    obtain ⟨en,hen⟩ : ∃ en : Nat,en = mid + m - s := ⟨_,rfl⟩
    have e1 : (mid : Int) + (m : Int) - (s : Int) = (en : Int) := by omega
    have e2 : mid <= en := by omega
    have e3 : m <= en := by omega
    have e4 : en <= b := by omega
    obtain ⟨F1,F2,F3,F4,F5,F6⟩ := St.mid_facts HI.out HS1.out HS2.out (by omega) (by omega) hbn HM.out i1 i3 i4 (by omega) (by omega) KI.out.2.2.2.2.2.1 KI.out.2.2.2.2.2.2
    rw [<- hen] at F1 F2 F3 F4 F5 F6
    have G1 := LH F1
    have G2 := LH F2
    have G3 := LH F3
    have G4 := LH F4
    have G5 := LH F5
    have G6 := LH F6
    have HE := LH hen
    clear F1 F2 F3 F4 F5 F6 hen
    have stay : ∀ wz : World,wr = wz -> (s = m ∨ en = m) -> Hid (Rw wz g n (St.rot d s m en)) /\ Hid (Only g wc wz) /\ Hid (St.Swaps a b d (St.rot d s m en)) := by
     rintro wz rfl e
     rcases e with e | e
     ·rw [e,St.rot_left]; exact ⟨KR.out,KO.out,St.Swaps.refl _⟩
     ·rw [e,St.rot_right]; exact ⟨KR.out,KO.out,St.Swaps.refl _⟩
    have q : (s < m /\ m < en) ∨ (s < m /\ ¬ m < en) ∨ ¬ s < m := by omega
    rcases q with ⟨q1,q2⟩ | ⟨q1,q2⟩ | q1
    all_goals first
     | (have _t : m < en := q2; clear _t
        clear stay
        go_wp2_with fail
        refine (rotate_any g cap n s m en _ d wr KR.out hn q1 q2 (by omega)).mono ?_
        rintro e w2 ⟨rfl,d2,hr2,ho2,rfl,hs2⟩
        have Z1 := LH hr2
        have Z2 := LH (KO.out.trans ho2)
        have Z3 : Hid (St.Swaps a b d (St.rot d s m en)) := hs2.mono (by omega) (by omega)
        clear hr2 ho2 hs2 KR KO)
     | (have _t : ¬ m < en := q2; clear _t
        obtain ⟨w2,hw2⟩ : ∃ w2,w2 = wr := ⟨_,rfl⟩
        obtain ⟨Z1,Z2,Z3⟩ := stay w2 hw2.symm (Or.inr (by omega))
        subst hw2
        clear stay KR KO)
     | (have _t : ¬ s < m := q1; clear _t
        obtain ⟨w2,hw2⟩ : ∃ w2,w2 = wr := ⟨_,rfl⟩
        obtain ⟨Z1,Z2,Z3⟩ := stay w2 hw2.symm (Or.inl (by omega))
        subst hw2
        clear stay KR KO)
    all_goals
     obtain ⟨d1,hd1⟩ : ∃ d1,d1 = St.rot d s m en := ⟨_,rfl⟩
     rw [<- hd1] at G1 G2 G3 G4 G5 G6 Z1 Z3
     clear hd1 KI HE
     have stay2 : ∀ wz : World,w2 = wz -> (s = a ∨ s = mid) -> Hid (Rw wz g n d1) /\ Hid (Only g wc wz) /\ Hid (SortIs kf n d1 a mid d1) := by
      rintro wz rfl e
      refine ⟨Z1,Z2,.refl _,G1.out,?_⟩
      rcases e with rfl | rfl
      ·exact G3.out
      ·exact G2.out
     have q : (a < s /\ s < mid) ∨ (a < s /\ ¬ s < mid) ∨ ¬ a < s := by omega
     rcases q with ⟨q1,q2⟩ | ⟨q1,q2⟩ | q1
     all_goals first
      | (have _t : s < mid := q2; clear _t
         clear stay2
         go_wp2_with fail
         refine (IH.out a s mid d1 _ (by omega) q1 q2 (by omega) Z1.out G2.out G3.out G1.out (Z3.out.all hbn p HP.out) (HC.out.later Z2.out)).mono ?_
         rintro e w3 ⟨rfl,d2,hr2,ho2,hs2⟩
         have Y1 := LH hr2
         have Y2 := LH (Z2.out.trans ho2)
         have Y3 := LH hs2
         clear hr2 ho2 hs2 Z1 Z2)
      | (have _t : ¬ s < mid := q2; clear _t
         obtain ⟨w3,hw3⟩ : ∃ w3,w3 = w2 := ⟨_,rfl⟩
         obtain ⟨d2,hd2⟩ : ∃ d2,d2 = d1 := ⟨_,rfl⟩
         obtain ⟨Y1,Y2,Y3⟩ := stay2 w3 hw3.symm (Or.inr (by omega))
         rw [<- hd2] at Y1
         have Y3 : Hid (SortIs kf n d1 a mid d2) := by rw [hd2]; exact Y3
         subst hw3
         clear stay2 Z1 Z2 hd2)
      | (have _t : ¬ a < s := q1; clear _t
         obtain ⟨w3,hw3⟩ : ∃ w3,w3 = w2 := ⟨_,rfl⟩
         obtain ⟨d2,hd2⟩ : ∃ d2,d2 = d1 := ⟨_,rfl⟩
         obtain ⟨Y1,Y2,Y3⟩ := stay2 w3 hw3.symm (Or.inl (by omega))
         rw [<- hd2] at Y1
         have Y3 : Hid (SortIs kf n d1 a mid d2) := by rw [hd2]; exact Y3
         subst hw3
         clear stay2 Z1 Z2 hd2)
     all_goals
      have G4' : Hid (St.Srt kf d2 mid en) := G4.out.keep fun k k1 k2 => Y3.out.1.out k (Or.inr k1)
      have G5' : Hid (St.Srt kf d2 en b) := G5.out.keep fun k k1 k2 => Y3.out.1.out k (Or.inr (by omega))
      have fin : ∀ d3 : Nat -> Nat,SortIs kf n d2 mid b d3 -> SortIs kf n d a b d3 := fun d3 h3 =>
       ⟨(Z3.out.trans (Y3.out.1.mono (by omega) (by omega))).trans (h3.1.mono (by omega) (Nat.le_refl _)),h3.2.1,St.join_srt G6.out d2 Y3.out.1 h3.1 Y3.out.2.2 h3.2.2⟩
      have FIN := LH fin
      clear fin
      have q : (mid < en /\ en < b) ∨ (mid < en /\ ¬ en < b) ∨ ¬ mid < en := by omega
      rcases q with ⟨q1,q2⟩ | ⟨q1,q2⟩ | q1
      ·go_wp2_with fail
       refine (IH.out mid en b d2 _ (by omega) q1 q2 hbn Y1.out G4'.out G5'.out Y3.out.2.1 (Y3.out.1.all (by omega) p (Z3.out.all hbn p HP.out)) (HC.out.later Y2.out)).mono ?_
       rintro e w4 ⟨rfl,d3,hr3,ho3,hs3⟩
       have X1 := LH hr3
       have X2 := LH (Y2.out.trans ho3)
       have X3 := LH hs3
       clear hr3 ho3 hs3
       go_wp2_with fail
       go_end0
       exact ⟨rfl,_,X1.out,X2.out,FIN.out _ X3.out⟩
      ·go_wp2_with fail
       go_end0
       have e : en = b := by omega
       exact ⟨rfl,_,Y1.out,Y2.out,FIN.out _ ⟨.refl _,Y3.out.2.1,by rw [<- e]; exact G4'.out⟩⟩
      ·go_wp2_with fail
       go_end0
       have e : en = mid := by omega
       exact ⟨rfl,_,Y1.out,Y2.out,FIN.out _ ⟨.refl _,Y3.out.2.1,by rw [<- e]; exact G5'.out⟩⟩
theorem sym_any (g cap n K : Nat) (kf : Nat -> Nat) (p : Nat -> Prop) (hn : n <= 288) (N : Nat) : ∀ (a m b : Nat) (d : Nat -> Nat) (w : World),b - a <= N -> a < m -> m < b -> b <= n -> Rw w g n d -> St.Srt kf d a m -> St.Srt kf d m b -> St.Ris kf d n ->
  (∀ i,i < n -> p (d i)) -> Cmps g kf p K w ->
   Calls Tryz.prog 231 #[.slice (some ⟨g,0,none⟩) n cap,.int .i64 (a : Int),.int .i64 (m : Int),.int .i64 (b : Int),.func (.func 220) #[] #[.pointer (some ⟨K,0,none⟩)]] w (SortPost g n w (SortIs kf n d a b)) := by
 induction N with
 | zero => intro a m b d w h; omega
 | succ N ih =>
  intro a m b d w h ham hmb hbn hr h1 h2 hris hp hcmp
  by_cases e1 : m = a + 1
  ·exact sym_one g cap n a m b K kf p d w hr hn hbn e1 hmb h2 hris hp hcmp
  ·by_cases e2 : b = m + 1
   ·exact sym_two g cap n a m b K kf p d w hr hn hbn (by omega) e2 h1 hris hp hcmp
   ·exact sym_gen g cap n a m b K kf p d w hr hn hbn (by omega) (by omega) h1 h2 hris hp hcmp fun a' m' b' d' w' hlt => ih a' m' b' d' w' (by omega)
end Go.Proofs.YtmgpcbjciioiaaaGreatDoor
