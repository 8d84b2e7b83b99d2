import Derived.Test.YtmgpcbjciioiaaaGreatDoorHsym3
import Derived.Test.YtmgpcbjciioiaaaGreatDoorCarg
import Derived.Test.YtmgpcbjciioiaaaGreatDoorHsort
import Derived.Test.YtmgpcbjciioiaaaGreatDoorSone
import Derived.RangeFuncNested
import Derived.RangeFuncBound
import Derived.RangeFuncCalls
import Derived.RangeFuncLeaves
import Derived.RangeFuncBox
import Derived.Shelf.Abstract
import Derived.Shelf.RegionOpen
import Derived.WalkKit
import Derived.OwnWalkIn
import Derived.TacticsInMore
import Derived.LoopNIn
import Derived.LoopIn
import Derived.Maps.AppendAt
import Derived.Deep.OwnRows
import Derived.BigQuiet
import Derived.Laws.CopyOwn
import Derived.Deep.RegionLaw
import Derived.Laws.StructEq
namespace Go.Proofs.YtmgpcbjciioiaaaGreatDoor
set_option maxRecDepth 100000
set_option maxHeartbeats 8000000
section
open Go.RowKit
def Blk (kf e : Nat -> Nat) (bs lo hi : Nat) : Prop := ∀ i j,lo <= i -> i < j -> j < hi -> i / bs = j / bs -> kf (e i) <= kf (e j)
theorem Blk.srt {kf e : Nat -> Nat} {bs lo hi a b q : Nat} (h : Blk kf e bs lo hi) (hq : a = q * bs) (hlo : lo <= a) (hb : b <= a + bs) (hhi : b <= hi) : St.Srt kf e a b := by
 intro i j h1 h2 h3
 refine h i j (by omega) h2 (by omega) ?_
 rw [Nat.div_eq_of_lt_le (k := q) (m := i) (by omega) (by rw [Nat.succ_mul]; omega),Nat.div_eq_of_lt_le (k := q) (m := j) (by omega) (by rw [Nat.succ_mul]; omega)]
theorem Blk.add {kf e e' : Nat -> Nat} {bs a b q : Nat} (h : Blk kf e bs 0 a) (hbs : 0 < bs) (hq : a = q * bs) (hsw : St.Swaps a b e e') (hs : St.Srt kf e' a b) : Blk kf e' bs 0 b := by
 intro i j h1 h2 h3 h4
 by_cases hj : j < a
 ·rw [hsw.out i (by omega),hsw.out j (by omega)]; exact h i j h1 h2 hj h4
 ·by_cases hi : i < a
  ·exfalso
   have g1 : i / bs < q := (Nat.div_lt_iff_lt_mul hbs).2 (by omega)
   have g2 : q <= j / bs := (Nat.le_div_iff_mul_le hbs).2 (by omega)
   omega
  ·exact hs i j (by omega) h2 h3
theorem Blk.rest {kf e e' : Nat -> Nat} {bs a b hi : Nat} (h : Blk kf e bs a hi) (hab : a <= b) (hsw : St.Swaps a b e e') : Blk kf e' bs b hi := by
 intro i j h1 h2 h3 h4
 rw [hsw.out i (by omega),hsw.out j (by omega)]; exact h i j (by omega) h2 h3 h4
def Ph1 (kf : Nat -> Nat) (n : Nat) (d : Nat -> Nat) (a : Nat) (e : Nat -> Nat) : Prop := (∃ q,a = q * 20) /\ St.Swaps 0 n d e /\ St.Ris kf e n /\ Blk kf e 20 0 a
def Ph2 (kf : Nat -> Nat) (n : Nat) (d : Nat -> Nat) (bs : Nat) (e : Nat -> Nat) : Prop := St.Swaps 0 n d e /\ St.Ris kf e n /\ Blk kf e bs 0 n
def Ph3 (kf : Nat -> Nat) (n : Nat) (d : Nat -> Nat) (bs a : Nat) (e : Nat -> Nat) : Prop := (∃ q,a = q * (2 * bs)) /\ St.Swaps 0 n d e /\ St.Ris kf e n /\ Blk kf e (2 * bs) 0 a /\ Blk kf e bs a n
theorem Ph1.start {kf d : Nat -> Nat} {n : Nat} (h : St.Ris kf d n) : Ph1 kf n d 0 d := ⟨⟨0,by omega⟩,.refl _,h,fun i j h1 h2 h3 => by omega⟩
theorem Ph1.step {kf d e e' : Nat -> Nat} {n a : Nat} (h : Ph1 kf n d a e) (hs : SortIs kf n e a (a + 20) e') (ha : a + 20 <= n) : Ph1 kf n d (a + 20) e' := by
 obtain ⟨⟨q,hq⟩,h1,h2,h3⟩ := h
 exact ⟨⟨q + 1,by omega⟩,h1.trans (hs.1.mono (by omega) ha),hs.2.1,h3.add (by omega) hq hs.1 hs.2.2⟩
theorem Ph1.done {kf d e e' : Nat -> Nat} {n a : Nat} (h : Ph1 kf n d a e) (hs : SortIs kf n e a n e') : Ph2 kf n d 20 e' := by
 obtain ⟨⟨q,hq⟩,h1,h2,h3⟩ := h
 exact ⟨h1.trans (hs.1.mono (by omega) (Nat.le_refl _)),hs.2.1,h3.add (by omega) hq hs.1 hs.2.2⟩
theorem Ph2.start {kf d e : Nat -> Nat} {n bs : Nat} (h : Ph2 kf n d bs e) : Ph3 kf n d bs 0 e := ⟨⟨0,by omega⟩,h.1,h.2.1,fun i j h1 h2 h3 => by omega,h.2.2⟩
theorem Ph2.done {kf d e : Nat -> Nat} {n bs : Nat} (h : Ph2 kf n d bs e) (hn : n <= bs) : SortIs kf n d 0 n e :=
 ⟨h.1,h.2.1,fun i j h1 h2 h3 => h.2.2 i j h1 h2 h3 (by rw [Nat.div_eq_of_lt (by omega),Nat.div_eq_of_lt (by omega)])⟩
theorem Ph3.left {kf d e : Nat -> Nat} {n bs a b : Nat} (h : Ph3 kf n d bs a e) (hb : b <= a + bs) (hn : b <= n) : St.Srt kf e a b := by
 obtain ⟨⟨q,hq⟩,h1,h2,h3,h4⟩ := h
 exact h4.srt (q := q * 2) (by rw [hq,Nat.mul_assoc]) (Nat.le_refl _) hb hn
theorem Ph3.right {kf d e : Nat -> Nat} {n bs a b : Nat} (h : Ph3 kf n d bs a e) (hb : b <= a + 2 * bs) (hn : b <= n) : St.Srt kf e (a + bs) b := by
 obtain ⟨⟨q,hq⟩,h1,h2,h3,h4⟩ := h
 exact h4.srt (q := q * 2 + 1) (by rw [hq,Nat.succ_mul (q * 2) bs,Nat.mul_assoc]) (by omega) (by omega) hn
theorem Ph3.step {kf d e e' : Nat -> Nat} {n bs a : Nat} (h : Ph3 kf n d bs a e) (hbs : 0 < bs) (hs : SortIs kf n e a (a + 2 * bs) e') (ha : a + 2 * bs <= n) : Ph3 kf n d bs (a + 2 * bs) e' := by
 obtain ⟨⟨q,hq⟩,h1,h2,h3,h4⟩ := h
 exact ⟨⟨q + 1,by rw [Nat.succ_mul q (2 * bs)]; omega⟩,h1.trans (hs.1.mono (by omega) ha),hs.2.1,h3.add (by omega) hq hs.1 hs.2.2,h4.rest (by omega) hs.1⟩
theorem Ph3.done {kf d e e' : Nat -> Nat} {n bs a : Nat} (h : Ph3 kf n d bs a e) (hbs : 0 < bs) (hs : SortIs kf n e a n e') : Ph2 kf n d (2 * bs) e' := by
 obtain ⟨⟨q,hq⟩,h1,h2,h3,h4⟩ := h
 exact ⟨h1.trans (hs.1.mono (by omega) (Nat.le_refl _)),hs.2.1,h3.add (by omega) hq hs.1 hs.2.2⟩
theorem Ph3.same {kf d e : Nat -> Nat} {n bs a : Nat} (h : Ph3 kf n d bs a e) (hn : n <= a + bs) : SortIs kf n e a n e := ⟨.refl _,h.2.2.1,h.left hn (Nat.le_refl _)⟩
def Siz (bs : Nat) : Prop := bs = 20 ∨ bs = 40 ∨ bs = 80 ∨ bs = 160 ∨ bs = 320
theorem insertion_to (g cap n a b K : Nat) (kf : Nat -> Nat) (p : Nat -> Prop) (d : Nat -> Nat) (w : World) (hr : Rw w g n d) (hn : n <= 288) (hbn : b <= n) (hab : a <= 288) (hris : St.Ris kf d n) (hp : ∀ i,i < n -> p (d i)) (hcmp : Cmps g kf p K w) (A B : Int) (hA : A = (a : Int)) (hB : B = (b : Int)) :
  Calls Tryz.prog 230 #[.slice (some ⟨g,0,none⟩) n cap,.int .i64 A,.int .i64 B,.func (.func 220) #[] #[.pointer (some ⟨K,0,none⟩)]] w (SortPost g n w (SortIs kf n d a b)) := by
 subst hA hB
 exact insertion_any g cap n a b K kf p d w hr hn hbn hab hris hp hcmp
theorem sym_to (g cap n a m b K : Nat) (kf : Nat -> Nat) (p : Nat -> Prop) (d : Nat -> Nat) (w : World) (hr : Rw w g n d) (hn : n <= 288) (ham : a < m) (hmb : m < b) (hbn : b <= n) (h1 : St.Srt kf d a m) (h2 : St.Srt kf d m b) (hris : St.Ris kf d n) (hp : ∀ i,i < n -> p (d i)) (hcmp : Cmps g kf p K w) (A M B : Int) (hA : A = (a : Int)) (hM : M = (m : Int)) (hB : B = (b : Int)) :
  Calls Tryz.prog 231 #[.slice (some ⟨g,0,none⟩) n cap,.int .i64 A,.int .i64 M,.int .i64 B,.func (.func 220) #[] #[.pointer (some ⟨K,0,none⟩)]] w (SortPost g n w (SortIs kf n d a b)) := by
 subst hA hM hB
 exact sym_any g cap n K kf p hn (b - a) a m b d w (Nat.le_refl _) ham hmb hbn hr h1 h2 hris hp hcmp
theorem stable_any (g cap n K : Nat) (kf : Nat -> Nat) (p : Nat -> Prop) (d : Nat -> Nat) (w : World) (hr : Rw w g n d) (hn : n <= 288) (hris : St.Ris kf d n) (hp : ∀ i,i < n -> p (d i)) (hcmp : Cmps g kf p K w) :
  Calls Tryz.prog 228 #[.slice (some ⟨g,0,none⟩) n cap,.int .i64 (n : Int),.func (.func 220) #[] #[.pointer (some ⟨K,0,none⟩)]] w (SortPost g n w (SortIs kf n d 0 n)) := by
 have HR := LH hr
 have HC := LH hcmp
 have HP := LH hp
 have HI := LH hris
 clear hr hcmp hp hris
 go_enter Tryz.func228,Tryz.ntmps228
 go_wp2
 go_loopw [7,8] (fun s7 s8 wr => ∃ (a : Nat) (e : Nat -> Nat),a <= n /\ s7 = .int .i64 a /\ s8 = .int .i64 ((a : Int) + 20) /\ Hid (Ph1 kf n d a e) /\ Hid (Rw wr g n e) /\ Hid (Only g w wr)) (fun s _ _ => n - (intOf s).toNat)
 case atStart => exact ⟨0,d,by omega,by go_num,by go_num,Ph1.start HI.out,HR,Only.refl _ _⟩
 case round =>
  obtain ⟨a,e,ha,rfl,rfl,KI,KR,KO⟩ := hrel
  by_cases hlt : a + 20 <= n
  ·go_wp2_with fail
   refine (insertion_to g cap n a (a + 20) K kf p e wr KR.out hn hlt (by omega) KI.out.2.2.1 (KI.out.2.1.all (Nat.le_refl _) p HP.out) (HC.out.later KO.out) _ _ rfl (by go_num)).mono ?_
   rintro e2 w2 ⟨rfl,d2,hr2,ho2,hs2⟩
   have Z1 := LH hr2
   have Z2 := LH (KO.out.trans ho2)
   have Z3 := LH hs2
   clear hr2 ho2 hs2
   go_wp2_with fail
   go_roundw
   case rel => exact ⟨a + 20,d2,hlt,by go_num,by go_num,KI.out.step Z3.out hlt,Z1,Z2⟩
   case measure => simp [intOf]; omega
  ·go_wp2_with fail
   refine (insertion_to g cap n a n K kf p e wr KR.out hn (Nat.le_refl _) (by omega) KI.out.2.2.1 (KI.out.2.1.all (Nat.le_refl _) p HP.out) (HC.out.later KO.out) _ _ rfl rfl).mono ?_
   rintro e2 w2 ⟨rfl,d2,hr2,ho2,hs2⟩
   have Z1 := LH hr2
   have Z2 := LH (KO.out.trans ho2)
   have Z3 : Hid (Ph2 kf n d 20 d2) := KI.out.done hs2
   clear hr2 ho2 hs2 KR KO KI
   go_wp2_with fail
   go_loopw [6,7,8,9] (fun s6 _ _ _ wr => ∃ (bs : Nat) (e : Nat -> Nat),Hid (Siz bs) /\ s6 = .int .i64 bs /\ Hid (Ph2 kf n d bs e) /\ Hid (Rw wr g n e) /\ Hid (Only g w wr)) (fun s _ _ _ _ => n - (intOf s).toNat)
   case atStart => exact ⟨20,d2,Or.inl rfl,by go_num,Z3,Z1,Z2⟩
   case round =>
    clear Z1 Z2 Z3
    obtain ⟨bs,e,hbs,rfl,KI,KR,KO⟩ := hrel
    have hb0 : 20 <= bs := by have := hbs.out; unfold Siz at this; omega
    have hb1 : bs <= 320 := by have := hbs.out; unfold Siz at this; omega
    by_cases hlt : bs < n
    ·have hb2 : Hid (Siz (2 * bs)) := by have h := hbs.out; show Siz _; unfold Siz at h ⊢; omega
     go_wp2_with fail
     go_loopw [7,8] (fun s7 s8 wx => ∃ (a : Nat) (e : Nat -> Nat),a <= n /\ s7 = .int .i64 a /\ s8 = .int .i64 ((a : Int) + 2 * (bs : Int)) /\ Hid (Ph3 kf n d bs a e) /\ Hid (Rw wx g n e) /\ Hid (Only g w wx)) (fun s _ _ => n - (intOf s).toNat)
     case atStart => exact ⟨0,e,by omega,by go_num,by go_num,KI.out.start,KR,KO⟩
     case round =>
      clear KI KR KO
      obtain ⟨a,e3,ha,rfl,rfl,KI,KR,KO⟩ := hrel
      by_cases hlt3 : a + 2 * bs <= n
      ·go_wp2_with fail
       refine (sym_to g cap n a (a + bs) (a + 2 * bs) K kf p e3 _ KR.out hn (by omega) (by omega) hlt3 (KI.out.left (Nat.le_refl _) (by omega)) (KI.out.right (Nat.le_refl _) hlt3) KI.out.2.2.1 (KI.out.2.1.all (Nat.le_refl _) p HP.out) (HC.out.later KO.out) _ _ _ rfl (by go_num) (by go_num)).mono ?_
       rintro e4 w4 ⟨rfl,d4,hr4,ho4,hs4⟩
       have Z1 := LH hr4
       have Z2 := LH (KO.out.trans ho4)
       have Z3 := LH hs4
       clear hr4 ho4 hs4
       go_wp2_with fail
       go_roundw
       case rel => exact ⟨a + 2 * bs,d4,hlt3,by go_num,by go_num,KI.out.step (by omega) Z3.out hlt3,Z1,Z2⟩
       case measure => simp [intOf]; omega
      ·by_cases hm : a + bs < n
       ·go_wp2_with fail
        refine (sym_to g cap n a (a + bs) n K kf p e3 _ KR.out hn (by omega) hm (Nat.le_refl _) (KI.out.left (Nat.le_refl _) (by omega)) (KI.out.right (by omega) (Nat.le_refl _)) KI.out.2.2.1 (KI.out.2.1.all (Nat.le_refl _) p HP.out) (HC.out.later KO.out) _ _ _ rfl (by go_num) rfl).mono ?_
        rintro e4 w4 ⟨rfl,d4,hr4,ho4,hs4⟩
        have Z1 := LH hr4
        have Z2 := LH (KO.out.trans ho4)
        have Z3 := LH hs4
        clear hr4 ho4 hs4
        go_wp2_with fail
        go_roundw
        case rel => exact ⟨2 * bs,d4,hb2,by go_num,KI.out.done (by omega) Z3.out,Z1,Z2⟩
        case measure => simp [intOf]; omega
       ·go_wp2_with fail
        go_roundw
        case rel => exact ⟨2 * bs,e3,hb2,by go_num,KI.out.done (by omega) (KI.out.same (by omega)),KR,KO⟩
        case measure => simp [intOf]; omega
    ·go_wp2_with fail
     go_end0
     exact ⟨rfl,_,KR.out,KO.out,KI.out.done (by omega)⟩
end
section
open Go.RowKit
theorem Only.belowB {g B : Nat} {w w' : World} (h : Only g w w') (hB : B <= g) (hs : B <= w.heap.size) : Below B w w' := h.below (Below.refl _ _) hB hs
theorem only_alloc (w : World) (g : Nat) (o : Obj) : Only g w (w.alloc o) := ⟨rfl,rfl,rfl,by simp,fun k hk _ => Below.heap_alloc w o k hk⟩
theorem sortStable_any (g cap n K : Nat) (kf : Nat -> Nat) (p : Nat -> Prop) (d : Nat -> Nat) (w : World) (hr : Rw w g n d) (hn : n <= 288) (hris : St.Ris kf d n) (hp : ∀ i,i < n -> p (d i)) (hcmp : Cmps g kf p K w) :
  Calls Tryz.prog 219 #[.slice (some ⟨g,0,none⟩) n cap,.func (.func 220) #[] #[.pointer (some ⟨K,0,none⟩)]] w (SortPost g n w (SortIs kf n d 0 n)) := by
 have HC := stable_any g cap n K kf p d w hr hn hris hp hcmp
 clear hr hcmp hp hris
 go_enter Tryz.func219,Tryz.ntmps219
 go_wp2_with fail
 refine HC.mono ?_
 clear HC
 rintro e w2 ⟨rfl,d2,hr2,ho2,hs2⟩
 have Z1 := LH hr2
 have Z2 := LH ho2
 have Z3 := LH hs2
 clear hr2 ho2 hs2
 go_wp2_with fail
 go_end0
 exact ⟨rfl,_,Z1.out,Z2.out,Z3.out⟩
theorem insertion_nil (F : Value) (w : World) : Calls Tryz.prog 230 #[.slice none 0 0,.int .i64 0,.int .i64 0,F] w fun e w' => e = .returned (.tuple #[]) /\ w = w' := by
 go_enter Tryz.func230,Tryz.ntmps230
 go_wp2
 refine wp_loop_rounds 1 ?_
 rw [rounds_succ]
 go_wp2
 go_end0
 exact ⟨rfl,rfl⟩
theorem stable_nil (F : Value) (w : World) : Calls Tryz.prog 228 #[.slice none 0 0,.int .i64 0,F] w fun e w' => e = .returned (.tuple #[]) /\ w = w' := by
 go_enter Tryz.func228,Tryz.ntmps228
 go_wp2
 refine wp_loop_rounds 1 ?_
 rw [rounds_succ]
 go_wp2_with (go_at_call 230; refine (insertion_nil _ _).mono ?_; rintro e w' ⟨rfl,rfl⟩)
 refine wp_loop_rounds 1 ?_
 rw [rounds_succ]
 go_wp2
 go_end0
 exact ⟨rfl,rfl⟩
theorem sortStable_nil (F : Value) (w : World) : Calls Tryz.prog 219 #[.slice none 0 0,F] w fun e w' => e = .returned (.tuple #[]) /\ w = w' := by
 go_enter Tryz.func219,Tryz.ntmps219
 go_wp2_with (go_at_call 228; refine (stable_nil _ _).mono ?_; rintro e w' ⟨rfl,rfl⟩)
 go_end0
 exact ⟨rfl,rfl⟩
def SortedPost (g n cap : Nat) (kf d : Nat -> Nat) (w : World) (e : Ending) (w' : World) : Prop :=
 e = .returned (.slice (some ⟨g,0,none⟩) n cap) /\ ∃ d',Rw w' g n d' /\ SortIs kf n d 0 n d' /\ Only g w w'
theorem cmps_of (B g K L : Nat) (ls : List Nat) (w : World) (hg : B <= g) (hne : K ≠ g) (hK : K < w.heap.size) (hc : w.cell? ⟨K,0,none⟩ = some (.func (.func 203) #[] #[.pointer (some ⟨L,0,none⟩)])) (hL : Lens B w L ls) :
  Cmps g (fun x => ls[x]?.getD 0) (fun x => x < ls.length) K w := by
 intro w' x y ho hx hy
 refine cmp_any B K L x y ls w' ?_ (hL.below (ho.belowB hg hL.size)) hx hy
 have e : w'.heap[K]? = w.heap[K]? := ho.block K hK hne
 unfold World.cell? at hc ⊢
 simp only at hc ⊢
 rw [e]; exact hc
theorem sorted_any (B g cap n L : Nat) (ls : List Nat) (d : Nat -> Nat) (w : World) (hr : Rw w g n d) (hn : n <= 288) (hg : B <= g) (hL : Lens B w L ls) (hris : St.Ris (fun x => ls[x]?.getD 0) d n) (hp : ∀ i,i < n -> d i < ls.length) :
  Calls Tryz.prog 202 #[.slice (some ⟨g,0,none⟩) n cap,.func (.func 203) #[] #[.pointer (some ⟨L,0,none⟩)]] w (SortedPost g n cap (fun x => ls[x]?.getD 0) d w) := by
 have hlt := hr.lt
 have hb := below1 w (.cells #[.func (.func 203) #[] #[.pointer (some ⟨L,0,none⟩)]] 93)
 have hsz := hL.size
 have hc : (w.alloc (.cells #[.func (.func 203) #[] #[.pointer (some ⟨L,0,none⟩)]] 93)).cell? ⟨w.heap.size,0,none⟩ = some (.func (.func 203) #[] #[.pointer (some ⟨L,0,none⟩)]) := (Has.new w _).one.1
 have hr1 : Rw (w.alloc (.cells #[.func (.func 203) #[] #[.pointer (some ⟨L,0,none⟩)]] 93)) g n d :=
  ⟨by simp; omega,fun i hi => by rw [hb.cell (p := ⟨g,i,none⟩) hlt]; exact hr.cell i hi,fun i hi => by rw [hb.frozen (p := ⟨g,i,none⟩) hlt]; exact hr.free i hi⟩
 have hcm := cmps_of B g w.heap.size L ls _ hg (by omega) (by simp) hc (hL.below (hb.mono hsz))
 have HC := sortStable_any g cap n w.heap.size _ _ d _ hr1 hn hris hp hcm
 have HB := LH (only_alloc w g (.cells #[.func (.func 203) #[] #[.pointer (some ⟨L,0,none⟩)]] 93))
 clear hr hris hp hL hc hr1 hcm hb
 go_enter Tryz.func202,Tryz.ntmps202
 go_wp2_with fail
 refine HC.mono ?_
 clear HC
 rintro e w2 ⟨rfl,d2,hr2,ho2,hs2⟩
 have Z1 := LH hr2
 have Z2 := LH ho2
 have Z3 := LH hs2
 clear hr2 ho2 hs2
 go_wp2_with fail
 go_ret
 exact ⟨rfl,d2,Z1.out,Z3.out,HB.out.trans Z2.out⟩
theorem sorted_nil (L : Nat) (w : World) :
  Calls Tryz.prog 202 #[.slice none 0 0,.func (.func 203) #[] #[.pointer (some ⟨L,0,none⟩)]] w fun e w' => e = .returned (.slice none 0 0) /\ Below w.heap.size w w' := by
 have hb := LH (below1 w (.cells #[.func (.func 203) #[] #[.pointer (some ⟨L,0,none⟩)]] 93))
 go_enter Tryz.func202,Tryz.ntmps202
 go_wp2_with (go_at_call 219; refine (sortStable_nil _ _).mono ?_; rintro e w' ⟨rfl,rfl⟩)
 go_ret
 exact ⟨rfl,hb.out⟩
end
section
open Go.RowKit Go.Shelf
attribute [local go_sem] Oper.semAt_some
def Lsl (B : Nat) (W : World) (sv : Value) (ls : List Nat) : Prop :=
 ∃ b off cap,sv = .slice (some ⟨b,off,none⟩) ls.length cap /\ 0 < ls.length /\ ls.length <= 288 /\ b < B /\ ∀ i,i < ls.length -> W.cell? ⟨b,off + i,none⟩ = some (.int .i64 ((ls[i]?.getD 0 : Nat) : Int))
theorem Lsl.below {B : Nat} {w w' : World} {sv : Value} {ls : List Nat} (h : Lsl B w sv ls) (hb : Below B w w') : Lsl B w' sv ls := by
 obtain ⟨b,off,cap,e,h1,h2,h3,h4⟩ := h
 exact ⟨b,off,cap,e,h1,h2,h3,fun i hi => (hb.cell (p := ⟨b,off + i,none⟩) h3).trans (h4 i hi)⟩
def usedTo (ls : List Nat) : Nat -> List (Nat × Nat)
 | 0 => []
 | k + 1 => usedTo ls k ++ (if ls[k]?.getD 0 = 0 then [] else [(k,ls[k]?.getD 0)])
theorem usedTo_length (ls : List Nat) (k : Nat) : (usedTo ls k).length <= k := by
 induction k with
 | zero => simp [usedTo]
 | succ k ih => simp only [usedTo,List.length_append]; split <;> simp <;> omega
theorem usedTo_syms (ls : List Nat) (k : Nat) : (usedTo ls k).map Prod.fst = Hf.usedL ls k := by
 induction k with
 | zero => rfl
 | succ k ih =>
  simp only [usedTo,Hf.usedL,List.map_append,ih]
  congr 1
  show _ = if ls[k]?.getD 0 = 0 then [] else [k]
  by_cases h : ls[k]?.getD 0 = 0
  ·rw [if_pos h,if_pos h]; rfl
  ·rw [if_neg h,if_neg h]; rfl
theorem used_in (n : Nat) (sv : Value) (a : Option Addr) (len cap : Nat) (hsv : sv = .slice a len cap) (w : World) :
  CallsIn Fence.wide n Tryz.prog 196 #[sv] w fun e w' => e = .returned (.func (.func 208) #[] #[.pointer (some ⟨w.heap.size,0,none⟩)]) /\ w' = w.alloc (.cells #[sv] 57) := by
 subst hsv
 refine callsIn_of_wp Tryz.func196 rfl trivial ?_ rfl
 simp only [Tryz.ntmps196,List.size_toArray,List.length_cons,List.length_nil,Nat.reduceAdd,Nat.reduceSub,Array.replicate_succ,Array.replicate_zero,List.push_toArray,List.append_toArray,List.nil_append,List.cons_append]
 gi_wp2
 go_ret
 exact ⟨rfl,rfl⟩
theorem used1_in (n : Nat) (hn : 1 <= n) (l Bs n₀ : Nat) (sv : Value) (ls : List Nat) (J Jx : List (Nat × Nat) -> World -> Prop)
  (hY : ∀ pre x W,J pre W -> pre.length < ls.length -> YieldAt Fence.wide (n - 1) Tryz.prog l #[.int .i64 (x.1 : Int),.int .i64 (x.2 : Int)] W fun e W' =>
   (e = .returned (.bool true) /\ J (pre ++ [x]) W' /\ Below n₀ W W') ∨ (e = .returned (.bool false) /\ Jx (pre ++ [x]) W'))
  (W : World) (hBs : W.cell? ⟨Bs,0,none⟩ = some sv) (hL : Lsl n₀ W sv ls) (h0 : J [] W) :
  CallsIn Fence.wide n Tryz.prog 208 #[.func (.yield l) #[] #[],.pointer (some ⟨Bs,0,none⟩)] W fun e W' => (∃ v,e = .returned v) /\
   ((∃ ys,ys = usedTo ls ls.length /\ J ys W') ∨ (∃ pre,True /\ Jx pre W')) := by
 obtain ⟨b,off,cap,rfl,hpos,h288,hb,hc⟩ := hL
 refine callsIn_of_wp Tryz.func208 rfl trivial ?_ rfl
 simp only [Tryz.ntmps208,List.size_toArray,List.length_cons,List.length_nil,Nat.reduceAdd,Nat.reduceSub,Array.replicate_succ,Array.replicate_zero,List.push_toArray,List.append_toArray,List.nil_append,List.cons_append]
 gi_wp2
 gi_loopw [7] (fun i wr => ∃ k : Nat,k <= ls.length /\ i = .int .i64 k /\ J (usedTo ls k) wr /\ Below n₀ W wr)
  (fun i _ => ls.length - (intOf i).toNat)
 case atStart => exact ⟨0,Nat.zero_le _,rfl,h0,Below.refl _ _⟩
 case round =>
  obtain ⟨k,hk,rfl,hJs,hnx⟩ := hrel
  by_cases hlt : k < ls.length
  ·have hcx : wr.cell? ⟨b,off + k,none⟩ = some (.int .i64 ((ls[k]?.getD 0 : Nat) : Int)) := (hnx.cell (p := ⟨b,off + k,none⟩) hb).trans (hc k hlt)
   obtain ⟨x,hx⟩ : ∃ x,x = ls[k]?.getD 0 := ⟨_,rfl⟩
   rw [<- hx] at hcx
   by_cases h0 : x = 0
   ·have hst : usedTo ls (k + 1) = usedTo ls k := by simp [usedTo,<- hx,h0]
    have HST := LH hst
    subst h0
    clear hst hx
    gi_wp2
    refine ⟨fun _ h => (by cases h),?_⟩
    gi_wp2
    go_roundw
    case rel => exact ⟨k + 1,by omega,by simp,by rw [HST.out]; exact hJs,hnx⟩
    case measure => simp [intOf]; omega
   ·have hst : usedTo ls (k + 1) = usedTo ls k ++ [(k,x)] := by simp [usedTo,<- hx,h0]
    have HST := LH hst
    have hne : ((x : Int) != 0) = true := by rw [bne_iff_ne]; omega
    obtain ⟨fn,tmps,assign,body,hy,hR⟩ := hY _ (k,x) wr hJs (by have := usedTo_length ls k; omega)
    dsimp only at hy
    clear hst hx
    gi_wp2
    refine hR.mono ?_
    rintro e W3 (⟨rfl,hJ3,hk3⟩ | ⟨rfl,hJx3⟩)
    ·gi_wp2
     go_roundw
     case rel => exact ⟨k + 1,by omega,by simp,by rw [HST.out]; exact hJ3,hnx.trans hk3⟩
     case measure => simp [intOf]; omega
    ·gi_wp2
     refine bodyPost_ret (results_none rfl _ _ _) rfl ?_
     exact ⟨⟨_,rfl⟩,.inr ⟨_,trivial,hJx3⟩⟩
  ·obtain rfl : k = ls.length := by omega
   gi_wp2
   go_end0
   exact ⟨⟨_,rfl⟩,.inl ⟨_,rfl,hJs⟩⟩
theorem used_stops (n : Nat) (hn : 1 <= n) (Bs n₀ : Nat) (sv : Value) (ls : List Nat) (w : World) (hBs : Bs < w.heap.size) (hn₀ : n₀ <= w.heap.size)
  (hc : w.cell? ⟨Bs,0,none⟩ = some sv) (hL : Lsl n₀ w sv ls) :
  SeqStopsK Fence.wide n Tryz.prog 208 #[.pointer (some ⟨Bs,0,none⟩)] (fun x : Nat × Nat => #[Value.int .i64 (x.1 : Int),Value.int .i64 (x.2 : Int)]) (Below n₀) (fun ys => ys = usedTo ls ls.length) (fun _ => True) ls.length w := fun l J Jx W hW _ _ hY h0 =>
 used1_in n hn l Bs n₀ sv ls J Jx hY W ((hW.cell (p := ⟨Bs,0,none⟩) hBs).trans hc) (hL.below (hW.mono hn₀)) h0
end
section
open Go.RowKit Go.Shelf
attribute [local go_sem] Oper.semAt_some
def takesOf : List (Nat × Nat) -> Nat
 | [] => 0
 | p :: ps => 32768 / 2 ^ min p.2 64 + takesOf ps
theorem takesOf_append (a b : List (Nat × Nat)) : takesOf (a ++ b) = takesOf a + takesOf b := by
 induction a with
 | nil => simp [takesOf]
 | cons p ps ih => simp only [List.cons_append,takesOf,ih]; omega
theorem takesOf_snoc (a : List (Nat × Nat)) (p : Nat × Nat) : takesOf (a ++ [p]) = takesOf a + 32768 / 2 ^ min p.2 64 := by rw [takesOf_append]; simp [takesOf]
theorem takesOf_le (a : List (Nat × Nat)) : takesOf a <= 32768 * a.length := by
 induction a with
 | nil => simp [takesOf]
 | cons p ps ih =>
  have := Nat.div_le_self 32768 (2 ^ min p.2 64)
  simp only [takesOf,List.length_cons]; omega
theorem taken_in (n : Nat) (hn : 3 <= n) (sv : Value) (ls : List Nat) (w : World) (hL : Lsl w.heap.size w sv ls) :
  CallsIn Fence.wide n Tryz.prog 184 #[sv] w fun e W' => e = .returned (.int .i64 (takesOf (usedTo ls ls.length) : Int)) /\ Below w.heap.size w W' := by
 have h1 : 1 <= n := by omega
 have hL2 := hL
 obtain ⟨b,off,cap,rfl,hpos,h288,hbl,hcl⟩ := hL2
 clear hcl
 refine callsIn_of_wp_marks Tryz.func184 rfl trivial ?_ rfl
 simp only [Tryz.ntmps184,List.size_toArray,List.length_cons,List.length_nil,Nat.reduceAdd,Nat.reduceSub,Array.replicate_succ,Array.replicate_zero,List.push_toArray,List.append_toArray,List.nil_append,List.cons_append]
 have HL := LH hL
 clear hL
 gi_wp2_with (refine ⟨trivial,?_⟩; gi_at_call 196; refine (used_in (n - 1) _ _ _ _ rfl _).mono ?_; rintro e w' ⟨rfl,rfl⟩)
 have bS := Boxed.new w 3 (.int .i64 0)
 have bN := Boxed.new (w.alloc (.cells #[.int .i64 0] 3)) 57 (.slice (some ⟨b,off,none⟩) ls.length cap)
 rw [World.size_alloc] at bN
 have hB0 : Below w.heap.size w ((w.alloc (.cells #[.int .i64 0] 3)).alloc (.cells #[.slice (some ⟨b,off,none⟩) ls.length cap] 57)) := ((Below.refl _ w).alloc (Nat.le_refl _) _).alloc (by simp) _
 refine wpIn_rangeFunc_ownG rfl h1 (gf := 208) (lb := #[.pointer (some ⟨w.heap.size + 1,0,none⟩)]) rfl trivial (enters_of Tryz.func208 (by kernel_rfl) rfl)
  (used_stops (n - 1) (by omega) (w.heap.size + 1) w.heap.size _ ls _ (by simp) (by simp; omega) bN.cell (HL.out.below hB0)) belowK_t (belowK_b (by simp; omega)) (Below.refl _ _) (fun _ => rfl)
  (fun pre W => (W.cell? ⟨w.heap.size,0,none⟩ = some (.int .i64 (takesOf pre : Int)) /\ W.frozen? ⟨w.heap.size,0,none⟩ = false) /\ Below w.heap.size w W)
  (fun _ _ _ => False)
  (OwnFrom.and (Own.from (fun s A B row hs hg hr => ⟨cell_kept hs.1 hg hr,(frozen_kept hs.1 hg hr).trans hs.2⟩) _) (ownFrom_below (Nat.le_refl _) (by simp; omega)))
  (fun _ _ _ _ _ hs _ _ => hs)
  ⟨⟨(bS.alloc _).cell,(bS.alloc _).frozen⟩,hB0⟩
  (fun x => { tmps := #[.slice (some ⟨b,off,none⟩) ls.length cap,undef,.int .i64 0,.pointer (some ⟨w.heap.size,0,none⟩),undef,.int .i64 (x.2 : Int),.slice (some ⟨b,off,none⟩) ls.length cap,.func (.func 208) #[] #[.pointer (some ⟨w.heap.size + 1,0,none⟩)],.int .i64 (x.1 : Int),.int .i64 (x.2 : Int),undef,undef,undef,undef,undef],defers := [] }) ?assign ?body ?done ?stop
 case assign =>
  intro l x W K hK
  gi_wp2
  exact hK
 case body =>
  rintro l pre x W ⟨⟨hc,hf⟩,hB⟩ hlt
  have hle := takesOf_le pre
  have hd := Nat.div_le_self 32768 (2 ^ min x.2 64)
  obtain ⟨y,hy⟩ : ∃ y,y = x.2 := ⟨_,rfl⟩
  obtain ⟨z,hz⟩ : ∃ z,z = takesOf pre := ⟨_,rfl⟩
  have hs : takesOf (pre ++ [x]) = z + 32768 / 2 ^ min y 64 := by rw [takesOf_snoc,hy,hz]
  rw [<- hy] at hd ⊢
  rw [<- hz] at hle hc
  have HS := LH hs
  clear hs hy hz
  have hmx : Tryz.prog.follows .mixedOrders = true := by kernel_rfl
  have hd1 : 1 <= n - 1 - 1 := by omega
  gi_wp2
  gi_region_with_o (fail)
  all_goals gi_wp2
  all_goals (try go_bits)
  all_goals
   have e : wrap64 ((z : Int) + 32768 / 2 ^ min y 64) = ((z + 32768 / 2 ^ min y 64 : Nat) : Int) := by
    have e1 : ((32768 : Int) / 2 ^ min y 64) = ((32768 / 2 ^ min y 64 : Nat) : Int) := by simp
    rw [e1]
    generalize 32768 / 2 ^ min y 64 = q at hd
    rw [IntWalk.wrap64_in _ (by omega)]
    omega
   rw [e,<- HS.out]
   exact ⟨((KeepsOthers.setCell _ _ _).trans (KeepsOthers.drew _)).from _,((Below.refl w.heap.size W).setCell (p := ⟨w.heap.size,0,none⟩) (Nat.le_refl _) _).drew,⟨World.cell?_setCell_same' _ _ _ (by rw [hc]; rfl),by rw [frozen_drew_own,World.frozen?_setCell]; exact hf⟩,(hB.setCell (p := ⟨w.heap.size,0,none⟩) (Nat.le_refl _) _).drew⟩
 case done =>
  rintro D ys W hD rfl ⟨⟨hc,_⟩,hB⟩ hK
  gi_wp2
  refine ⟨by simp,.inl ⟨_,_,rfl,run_takeDeferred hK,?_⟩⟩
  exact ⟨_,results_tmp rfl _ _ _,rfl,hB.trans (belowK_b (w := w) (Nat.le_refl _) W D _ _ (by simp at hD; omega) hK rfl rfl)⟩
 case stop =>
  rintro D c pre W _ _ h _
  exact h.elim
theorem taken_any (sv : Value) (ls : List Nat) (w : World) (hL : Lsl w.heap.size w sv ls) :
  Calls Tryz.prog 184 #[sv] w fun e W' => e = .returned (.int .i64 (takesOf (usedTo ls ls.length) : Int)) /\ Below w.heap.size w W' :=
 callsIn_wide.1 (taken_in 3 (Nat.le_refl _) sv ls w hL)
end
section
open Go.RowKit Go.Shelf
attribute [local go_sem] Oper.semAt_some
def Il (lo : Nat) (W : World) (sv : Value) (xs : List Nat) : Prop :=
 (sv = .slice none 0 0 /\ xs = []) ∨ ∃ g cap,sv = .slice (some ⟨g,0,none⟩) xs.length cap /\ xs.length <= cap /\ lo <= g /\ Rw W g xs.length (fun i => xs[i]?.getD 0)
def OrdPost (w : World) (ls : List Nat) (e : Ending) (w' : World) : Prop :=
 ∃ v,e = .returned v /\ Il w.heap.size w' v (Hf.ordl ls) /\ Below w.heap.size w w'
theorem Tryz.infoInt : (Tryz.prog.info? 3).map (fun i => (i.zero,i.size,i.bytes)) = some (some (.int .i64 0),1,8) := by kernel_rfl
def vsym (ps : List (Nat × Nat)) : List Value := ps.map fun p => Value.int .i64 (p.1 : Int)
theorem cell_of_heap {w w' : World} {g : Nat} (h : w'.heap[g]? = w.heap[g]?) (i : Nat) : w'.cell? ⟨g,i,none⟩ = w.cell? ⟨g,i,none⟩ := by
 unfold World.cell?; simp only [h]
theorem frozen_of_heap {w w' : World} {g : Nat} (h : w'.heap[g]? = w.heap[g]?) (i : Nat) : w'.frozen? ⟨g,i,none⟩ = w.frozen? ⟨g,i,none⟩ := by
 unfold World.frozen?; simp only [h]
theorem Rw.same {w w' : World} {g n : Nat} {d : Nat -> Nat} (h : Rw w g n d) (e : w'.heap[g]? = w.heap[g]?) (hs : g < w'.heap.size) : Rw w' g n d :=
 ⟨hs,fun i hi => (cell_of_heap e i).trans (h.cell i hi),fun i hi => (frozen_of_heap e i).trans (h.free i hi)⟩
theorem row_of_owns {W : World} {base g cap : Nat} {ls : List Nat} {k : Nat} (h : W.ownsRow base 3 1 (.slice (some ⟨g,0,none⟩) (usedTo ls k).length cap) (usedTo ls k).length (vsym (usedTo ls k))) (hg : g < W.heap.size) :
  Rw W g (Hf.usedL ls k).length (fun i => (Hf.usedL ls k)[i]?.getD 0) := by
 have hl : (Hf.usedL ls k).length = (usedTo ls k).length := by rw [<- usedTo_syms]; simp
 refine ⟨hg,fun i hi => ?_,fun i _ => h.frozenAt i⟩
 rw [h.cellAt i (by omega),<- usedTo_syms]
 have hi2 : i < (usedTo ls k).length := by omega
 simp [vsym,List.getElem?_eq_getElem hi2]
theorem ord_fin {w w1 W w2 : World} {g cap D : Nat} {ls : List Nat} {d' : Nat -> Nat} (h15 : ∀ i,i < ls.length -> Hf.ln ls i <= 15) (hs1 : w1.heap.size = w.heap.size + 1) (hB1 : Below w.heap.size w w1) (hB : Below (w.heap.size + 1) w1 W)
  (hg : w.heap.size + 1 <= g) (hgW : g < W.heap.size) (hD : w.heap.size <= D) (_hDW : D < W.heap.size) (hne : D ≠ g) (hcap : (Hf.usedL ls ls.length).length <= cap)
  (hr2 : Rw w2 g (Hf.usedL ls ls.length).length d') (hs : SortIs (Hf.ln ls) (Hf.usedL ls ls.length).length (fun i => (Hf.usedL ls ls.length)[i]?.getD 0) 0 (Hf.usedL ls ls.length).length d') (ho : Only g W w2) (o' : Obj) :
  Il w.heap.size (w2.putObj D o') (.slice (some ⟨g,0,none⟩) (Hf.usedL ls ls.length).length cap) (Hf.ordl ls) /\ Below w.heap.size w (w2.putObj D o') := by
 have e := Hf.sorted_is ls h15 _ _ d' rfl (fun i _ => rfl) hs.1 hs.2.1 hs.2.2
 have hn : (Hf.ordl ls).length = (Hf.usedL ls ls.length).length := by rw [<- e]; simp
 have hsz := hB.size
 have hsz2 := ho.size
 refine ⟨Or.inr ⟨g,cap,by rw [hn],by omega,by omega,?_⟩,?_⟩
 ·rw [hn]
  have h3 : Rw (w2.putObj D o') g (Hf.usedL ls ls.length).length d' := hr2.same (World.putObj_heap_other (by omega)) (by simp; omega)
  refine ⟨h3.lt,fun i hi => ?_,h3.free⟩
  rw [h3.cell i hi,<- e]
  simp [hi]
 ·refine ((hB1.trans (hB.mono (by omega))).trans (ho.belowB (by omega) (by omega))).trans ?_
  exact (Below.refl w.heap.size w2).grown (grownBy_putObj' w2 D o') (by omega) (fun k e => by cases e; omega)
theorem ordered_in (n : Nat) (hn : 3 <= n) (sv : Value) (ls : List Nat) (w : World) (hL : Lsl w.heap.size w sv ls) (h15 : ∀ i,i < ls.length -> Hf.ln ls i <= 15) :
  CallsIn Fence.wide n Tryz.prog 186 #[sv] w (OrdPost w ls) := by
 have h1 : 1 <= n := by omega
 have hL2 := hL
 obtain ⟨b,off,cap,rfl,hpos,h288,hbl,hcl⟩ := hL2
 clear hcl
 obtain ⟨i0,hi,hz0,hz1,hz2⟩ := info_parts Tryz.infoInt
 refine callsIn_of_wp_marks Tryz.func186 rfl trivial ?_ rfl
 simp only [Tryz.ntmps186,List.size_toArray,List.length_cons,List.length_nil,Nat.reduceAdd,Nat.reduceSub,Array.replicate_succ,Array.replicate_zero,List.push_toArray,List.append_toArray,List.nil_append,List.cons_append]
 have HL := LH hL
 have HI := LH hi
 clear hL hi
 gi_wp2_with (refine ⟨trivial,?_⟩; gi_at_call 196; refine (used_in (n - 1) _ _ _ _ rfl _).mono ?_; rintro e w' ⟨rfl,rfl⟩)
 obtain ⟨w1,hw1⟩ : ∃ w1,w1 = w.alloc (.cells #[.slice (some ⟨b,off,none⟩) ls.length cap] 57) := ⟨_,rfl⟩
 have hs1 : w1.heap.size = w.heap.size + 1 := by rw [hw1]; simp
 have bL : Boxed w1 w.heap.size 57 (.slice (some ⟨b,off,none⟩) ls.length cap) := by rw [hw1]; exact Boxed.new w 57 _
 have hB1 : Below w.heap.size w w1 := by rw [hw1]; exact (Below.refl _ w).alloc (Nat.le_refl _) _
 rw [<- hw1]
 have bS := Boxed.new w1 57 (.slice none 0 0)
 have bN := Boxed.new (w1.alloc (.cells #[.slice none 0 0] 57)) 57 (.slice (some ⟨b,off,none⟩) ls.length cap)
 rw [World.size_alloc] at bN
 rw [hs1] at bS bN
 have hB0 : Below (w.heap.size + 1) w1 ((w1.alloc (.cells #[.slice none 0 0] 57)).alloc (.cells #[.slice (some ⟨b,off,none⟩) ls.length cap] 57)) := ((Below.refl _ w1).alloc (by omega) _).alloc (by simp; omega) _
 have hL3 : Lsl (w.heap.size + 1) ((w1.alloc (.cells #[.slice none 0 0] 57)).alloc (.cells #[.slice (some ⟨b,off,none⟩) ls.length cap] 57)) (.slice (some ⟨b,off,none⟩) ls.length cap) ls := by
  obtain ⟨b',off',cap',e1,e2,e3,e4,e5⟩ := (HL.out.below hB1)
  exact Lsl.below ⟨b',off',cap',e1,e2,e3,by omega,e5⟩ hB0
 have hz3 : ((w1.alloc (.cells #[.slice none 0 0] 57)).alloc (.cells #[.slice (some ⟨b,off,none⟩) ls.length cap] 57)).heap.size = w.heap.size + 3 := by simp; omega
 clear hw1
 refine wpIn_rangeFunc_ownG rfl h1 (gf := 208) (lb := #[.pointer (some ⟨w.heap.size + 1 + 1,0,none⟩)]) rfl trivial (enters_of Tryz.func208 (by kernel_rfl) rfl)
  (used_stops (n - 1) (by omega) (w.heap.size + 1 + 1) (w.heap.size + 1) _ ls _ (by rw [hz3]; omega) (by rw [hz3]; omega) bN.cell hL3) belowK_t (belowK_b (by rw [hz3]; omega)) (Below.refl _ _) (fun _ => rfl)
  (fun pre W => (∃ v,Boxed W (w.heap.size + 1) 57 v /\ W.ownsRow (w.heap.size + 1) 3 1 v pre.length (vsym pre) /\ (v = .slice none 0 0 ↔ pre = [])) /\ Below (w.heap.size + 1) w1 W)
  (fun _ _ _ => False)
  (OwnFrom.and (Own.from (holdsRow_own (w.heap.size + 1) (w.heap.size + 1) 57 3 1 (fun pre => pre.length) (fun pre => vsym pre) (fun pre v => v = .slice none 0 0 ↔ pre = [])) _) (ownFrom_below (by omega) (by rw [hz3]; omega)))
  (fun _ _ _ _ _ hs _ _ => hs)
  ⟨⟨_,bS.alloc _,World.ownsRow_nil _ _ _ _,by simp⟩,hB0⟩
  (fun x => { tmps := #[.slice (some ⟨b,off,none⟩) ls.length cap,.pointer (some ⟨w.heap.size,0,none⟩),.slice none 0 0,.pointer (some ⟨w.heap.size + 1,0,none⟩),.int .i64 (x.1 : Int),.slice (some ⟨b,off,none⟩) ls.length cap,.func (.func 208) #[] #[.pointer (some ⟨w.heap.size + 1 + 1,0,none⟩)],.int .i64 (x.1 : Int),.int .i64 (x.2 : Int),undef,undef,undef,undef,undef,undef,undef],defers := [] }) ?assign ?body ?done ?stop
 case assign =>
  intro l x W K hK
  gi_wp2
  exact hK
 case body =>
  rintro l pre x W ⟨⟨v,hv,hrow,hnil⟩,hB⟩ hlt
  have hc := hv.cell
  have hsz := hB.size
  have hW : w.heap.size + 1 <= W.heap.size := by omega
  have hi := HI.out
  gi_wp2_with (gi_at_builtin; refine wpListIn_append_own _ rfl _ _ 57 rfl (w.heap.size + 1) 3 i0 (.int .i64 0) 1 8 Tryz.underlying57 hi hz0 hz1 hz2 rfl (by decide) _ _ _ rfl (hrow.alloc _) ⟨W.heap.size,0,none⟩ 1 1 [.int .i64 (x.1 : Int)] rfl rfl (cell_one_new _ _ _) (by simp [Value.oneCell']) (by unfold maxLen; omega) (by omega) (by simp; omega) ?_; intro v' w1 hown' hgrow _; obtain ⟨g',cap',rfl⟩ := ownsRow_succ hown'; obtain ⟨hv1,hv2,hr2,hk2,hb2⟩ := hv.appended (by decide) hrow hW (Nat.le_refl _) hown' hgrow; have hc1 := hv1.cell; have hf1 := hv1.frozen)
  exact ⟨hk2.from _,hb2,⟨_,hv2,by simpa [vsym] using hr2,by simp⟩,hB.trans hb2⟩
 case done =>
  rintro D ys W hD rfl ⟨⟨v,hv,hrow,hnil⟩,hB⟩ hK
  have hc := hv.cell
  rw [hz3] at hD
  have hDW : D < W.heap.size := (Array.getElem?_eq_some_iff.1 hK).1
  have hsz := hB.size
  rcases hrow.2 with ⟨rfl,h0⟩ | ⟨g,cap2,cur,rfl,hbg,hgb,hle,_⟩
  ·have he : usedTo ls ls.length = [] := hnil.1 rfl
   have hu : Hf.usedL ls ls.length = [] := by rw [<- usedTo_syms,he]; rfl
   have ho : Hf.ordl ls = [] := by
    have := Hf.sorted_is ls h15 0 (fun _ => 0) (fun _ => 0) (by rw [hu]; rfl) (fun i hi => by omega) (.refl _) (fun p q h1 h2 => by omega) (fun p q h1 h2 h3 => by omega)
    rw [<- this]; rfl
   have HB := LH hB
   have HO := LH ho
   clear hB ho hu he hnil hrow h0 hv
   gi_wp2_with (refine ⟨trivial,?_⟩; gi_at_call 202; refine (callsIn_wide.2 (sorted_nil _ _)).mono ?_; rintro e w2 ⟨rfl,hb2⟩)
   have hK2 : w2.heap[D]? = some (.deferred (some [])) := (hb2.block D hDW).trans hK
   have hsz2 := hb2.size
   refine ⟨by simp,.inl ⟨_,_,rfl,run_takeDeferred hK2,?_⟩⟩
   refine ⟨_,results_tmp rfl _ _ _,_,rfl,Or.inl ⟨rfl,HO.out⟩,?_⟩
   refine ((hB1.trans (HB.out.mono (by omega))).trans (hb2.mono (by omega))).trans ?_
   exact (Below.refl w.heap.size w2).grown (grownBy_putObj' w2 D _) (by omega) (fun k e => by cases e; omega)
  ·have hlen : (usedTo ls ls.length).length = (Hf.usedL ls ls.length).length := by rw [<- usedTo_syms]; simp
   have hgW : g < W.heap.size := (Array.getElem?_eq_some_iff.1 hgb).1
   have hne : D ≠ g := by
    intro e; rw [e] at hK; rw [hK] at hgb; cases hgb
   have hr : Rw W g (Hf.usedL ls ls.length).length (fun i => (Hf.usedL ls ls.length)[i]?.getD 0) := row_of_owns hrow hgW
   have hLe : Lens (w.heap.size + 1) W w.heap.size ls := by
    refine ⟨by omega,some ⟨b,off,none⟩,ls.length,cap,(hB.cell (p := ⟨w.heap.size,0,none⟩) (by show w.heap.size < _; omega)).trans bL.cell,rfl,h288,by omega,fun _ => ?_⟩
    obtain ⟨b',off',cap',e1,e2,e3,e4,e5⟩ := ((HL.out.below hB1).below (hB.mono (by omega)))
    cases e1
    exact ⟨b,off,rfl,by omega,e5⟩
   have hul := Hf.usedL_length ls ls.length
   have hle2 : (Hf.usedL ls ls.length).length <= cap2 := by omega
   have HC := sorted_any (w.heap.size + 1) g cap2 _ w.heap.size ls _ W hr (by omega) hbg hLe (Hf.used_ris ls ls.length) (fun i hi => by
    show (Hf.usedL ls ls.length)[i]?.getD 0 < _
    rw [List.getElem?_eq_getElem hi]
    exact ((Hf.mem_usedL ls ls.length _).1 (List.getElem_mem hi)).1)
   have HB := LH hB
   have HN := LH hne
   clear hB hnil hrow hv hr hLe hne hgb
   rw [hlen] at hc
   gi_wp2_with (refine ⟨trivial,?_⟩; gi_at_call 202; refine (callsIn_wide.2 HC).mono ?_; rintro e w2 ⟨rfl,d',hr2,hs2,ho2⟩)
   have hK2 : w2.heap[D]? = some (.deferred (some [])) := (ho2.block D hDW HN.out).trans hK
   have fin := ord_fin h15 hs1 hB1 HB.out hbg hgW (by omega) hDW HN.out hle2 hr2 hs2 ho2 (.deferred none)
   refine ⟨by simp,.inl ⟨_,_,rfl,run_takeDeferred hK2,?_⟩⟩
   refine ⟨_,results_tmp rfl _ _ _,?_⟩
   exact ⟨_,rfl,fin.1,fin.2⟩
 case stop =>
  rintro D c pre W _ _ h _
  exact h.elim
theorem ordered_any (sv : Value) (ls : List Nat) (w : World) (hL : Lsl w.heap.size w sv ls) (h15 : ∀ i,i < ls.length -> Hf.ln ls i <= 15) :
  Calls Tryz.prog 186 #[sv] w (OrdPost w ls) := callsIn_wide.1 (ordered_in 3 (Nat.le_refl _) sv ls w hL h15)
end
section
open Go.RowKit
def Zl (w : World) (s : Value) (zs : List Int) : Prop :=
 ∃ a len cap,s = .slice a len cap /\ len = zs.length /\ len <= 17592186044416 /\ (a = none -> len = 0 /\ cap = 0) /\
  (0 < len -> ∃ b off,a = some ⟨b,off,none⟩ /\ b < w.heap.size /\ ∀ i,i < len -> w.cell? ⟨b,off + i,none⟩ = some (.int .i64 (zs[i]?.getD 0)))
theorem Zl.later {w w' : World} {s : Value} {zs : List Int} (h : Zl w s zs) (hb : Below w.heap.size w w') : Zl w' s zs := by
 obtain ⟨a,len,cap,rfl,h1,h2,h3,h4⟩ := h
 refine ⟨a,len,cap,rfl,h1,h2,h3,fun hl => ?_⟩
 obtain ⟨b,off,rfl,hlt,hc⟩ := h4 hl
 refine ⟨b,off,rfl,Nat.lt_of_lt_of_le hlt hb.size,fun i hi => ?_⟩
 rw [hb.cell (p := ⟨b,off + i,none⟩) hlt]
 exact hc i hi
theorem Zl.shape {w : World} {s : Value} {zs : List Int} (h : Zl w s zs) : ∃ a len cap,s = .slice a len cap /\ len = zs.length := by
 obtain ⟨a,len,cap,rfl,h1,_⟩ := h
 exact ⟨_,_,_,rfl,h1⟩
def Valid (zs : List Int) : Prop := 0 < zs.length /\ zs.length <= 288 /\ ∀ i,i < zs.length -> 0 <= zs[i]?.getD 0 /\ zs[i]?.getD 0 <= 15
instance (zs : List Int) : Decidable (Valid zs) := by unfold Valid; infer_instance
def nat (zs : List Int) : List Nat := zs.map Int.toNat
theorem nat_length (zs : List Int) : (nat zs).length = zs.length := by simp [nat]
theorem nat_get (zs : List Int) (i : Nat) : (nat zs)[i]?.getD 0 = (zs[i]?.getD 0).toNat := by
 unfold nat
 rw [List.getElem?_map]
 cases zs[i]? <;> rfl
theorem Valid.get {zs : List Int} (h : Valid zs) (i : Nat) (hi : i < zs.length) : zs[i]?.getD 0 = (((nat zs)[i]?.getD 0 : Nat) : Int) := by
 rw [nat_get]; have := h.2.2 i hi; omega
theorem Valid.le {zs : List Int} (h : Valid zs) (i : Nat) (hi : i < (nat zs).length) : Hf.ln (nat zs) i <= 15 := by
 rw [nat_length] at hi
 show (nat zs)[i]?.getD 0 <= 15
 rw [nat_get]; have := h.2.2 i hi; omega
theorem Valid.lsl {zs : List Int} (h : Valid zs) {w : World} {s : Value} (hz : Zl w s zs) {B : Nat} (hB : w.heap.size <= B) : Lsl B w s (nat zs) := by
 obtain ⟨a,len,cap,rfl,h1,h2,h3,h4⟩ := hz
 obtain ⟨b,off,rfl,hlt,hc⟩ := h4 (by have := h.1; omega)
 refine ⟨b,off,cap,by rw [nat_length,h1],by rw [nat_length]; exact h.1,by rw [nat_length]; exact h.2.1,by omega,fun i hi => ?_⟩
 rw [nat_length] at hi
 rw [hc i (by omega),h.get i hi]
def Bad (z : Int) : Prop := z < 0 ∨ 15 < z
theorem bad_yes (z : Int) (hz : Bad z) (w : World) : Calls Tryz.prog 201 #[.int .i64 z] w fun e w' => e = .returned (.bool true) /\ w = w' := by
 by_cases h : z < 0
 ·have h1 : decide (z < 0) = true := by simpa using h
  clear hz
  go_enter Tryz.func201,Tryz.ntmps201
  go_wp2
  go_ret
  exact ⟨rfl,rfl⟩
 ·have h1 : decide (z < 0) = false := by simpa using h
  have h2 : 15 < z := hz.resolve_left h
  have h3 : decide (15 < z) = true := by simpa using h2
  clear hz
  go_enter Tryz.func201,Tryz.ntmps201
  go_wp2
  go_ret
  exact ⟨rfl,rfl⟩
theorem bad_no (z : Int) (hz : ¬ Bad z) (w : World) : Calls Tryz.prog 201 #[.int .i64 z] w fun e w' => e = .returned (.bool false) /\ w = w' := by
 have g1 : ¬ z < 0 := fun h => hz (Or.inl h)
 have g2 : ¬ 15 < z := fun h => hz (Or.inr h)
 have h1 : decide (z < 0) = false := by simpa using g1
 have h3 : decide (15 < z) = false := by simpa using g2
 clear hz
 go_enter Tryz.func201,Tryz.ntmps201
 go_wp2
 go_ret
 exact ⟨rfl,rfl⟩
def IdxPost (zs : List Int) (w : World) (e : Ending) (w' : World) : Prop := ∃ r : Int,e = .returned (.int .i64 r) /\ w = w' /\ ((0 <= r /\ ∃ i,i < zs.length /\ Bad (zs[i]?.getD 0)) ∨ (r = -1 /\ ∀ i,i < zs.length -> ¬ Bad (zs[i]?.getD 0)))
theorem index_any (zs : List Int) (s : Value) (w : World) (hz : Zl w s zs) : Calls Tryz.prog 156 #[s,.func (.func 201) #[] #[]] w (IdxPost zs w) := by
 have HZ := LH hz
 obtain ⟨a,len,cap,rfl,h1,h2,h3,h4⟩ := hz
 have H1 := LH h1
 have H4 := LH h4
 clear h1 h3 h4 HZ
 go_enter Tryz.func156,Tryz.ntmps156
 go_wp2
 go_loop [8] (fun s8 => ∃ k : Nat,k <= len /\ s8 = .int .i64 k /\ Hid (∀ i,i < k -> ¬ Bad (zs[i]?.getD 0))) (fun s => len - (intOf s).toNat)
 case atStart => exact ⟨0,Nat.zero_le _,rfl,fun i hi => by omega⟩
 case round =>
  obtain ⟨k,hk,rfl,KB⟩ := hrel
  by_cases hlt : k < len
  ·obtain ⟨b,off,rfl,_,hc⟩ := H4.out (by omega)
   have hck := hc k hlt
   obtain ⟨z,hz⟩ : ∃ z,z = zs[k]?.getD 0 := ⟨_,rfl⟩
   rw [<- hz] at hck
   have HK := LH hz
   clear hz hc
   by_cases hb : Bad z
   ·have HB := LH hb
    clear hb
    go_wp2_with (go_at_call 201; refine (bad_yes z HB.out _).mono ?_; rintro e w' ⟨rfl,rfl⟩)
    go_ret
    exact ⟨_,rfl,rfl,Or.inl ⟨by omega,k,by have := H1.out; omega,by rw [<- HK.out]; exact HB.out⟩⟩
   ·have HB := LH hb
    clear hb
    go_wp2_with (go_at_call 201; refine (bad_no z HB.out _).mono ?_; rintro e w' ⟨rfl,rfl⟩)
    go_round
    case rel =>
     refine ⟨k + 1,by omega,by go_num,?_⟩
     show ∀ i,i < k + 1 -> _
     intro i hi
     by_cases e : i = k
     ·rw [e,<- HK.out]; exact HB.out
     ·exact KB.out i (by omega)
    case measure => simp [intOf]; omega
  ·obtain rfl : k = len := by omega
   go_wp2
   go_ret
   exact ⟨_,rfl,rfl,Or.inr ⟨rfl,by rw [<- H1.out]; exact KB.out⟩⟩
theorem contains_yes (zs : List Int) (s : Value) (w : World) (hz : Zl w s zs) (hb : ∃ i,i < zs.length /\ Bad (zs[i]?.getD 0)) : Calls Tryz.prog 114 #[s,.func (.func 201) #[] #[]] w fun e w' => e = .returned (.bool true) /\ w = w' := by
 have HC := index_any zs s w hz
 have HB := LH hb
 obtain ⟨a,len,cap,rfl,hl⟩ := hz.shape
 clear hz hb hl
 go_enter Tryz.func114,Tryz.ntmps114
 go_wp2_with fail
 refine HC.mono ?_
 clear HC
 rintro e w' ⟨r,rfl,rfl,hr⟩
 have h0 : 0 <= r := by
  rcases hr with ⟨h,_⟩ | ⟨_,h⟩
  ·exact h
  ·obtain ⟨i,h1,h2⟩ := HB.out
   exact (h i h1 h2).elim
 have h1 : decide (0 <= r) = true := by simpa using h0
 clear hr
 go_wp2
 go_ret
 exact ⟨rfl,rfl⟩
theorem contains_no (zs : List Int) (s : Value) (w : World) (hz : Zl w s zs) (hb : ∀ i,i < zs.length -> ¬ Bad (zs[i]?.getD 0)) : Calls Tryz.prog 114 #[s,.func (.func 201) #[] #[]] w fun e w' => e = .returned (.bool false) /\ w = w' := by
 have HC := index_any zs s w hz
 have HB := LH hb
 obtain ⟨a,len,cap,rfl,hl⟩ := hz.shape
 clear hz hb hl
 go_enter Tryz.func114,Tryz.ntmps114
 go_wp2_with fail
 refine HC.mono ?_
 clear HC
 rintro e w' ⟨r,rfl,rfl,hr⟩
 have h0 : r = -1 := by
  rcases hr with ⟨_,i,h1,h2⟩ | ⟨h,_⟩
  ·exact (HB.out i h1 h2).elim
  ·exact h
 subst h0
 clear hr
 go_wp2
 go_ret
 exact ⟨rfl,rfl⟩
theorem valid_iff (zs : List Int) (h1 : 0 < zs.length) (h2 : zs.length <= 288) : Valid zs ↔ ∀ i,i < zs.length -> ¬ Bad (zs[i]?.getD 0) := by
 unfold Valid Bad
 constructor
 ·rintro ⟨_,_,h⟩ i hi; have := h i hi; omega
 ·intro h; exact ⟨h1,h2,fun i hi => by have := h i hi; omega⟩
theorem are_yes (zs : List Int) (s : Value) (w : World) (hz : Zl w s zs) (hv : Valid zs) : Calls Tryz.prog 182 #[s] w fun e w' => e = .returned (.bool true) /\ w = w' := by
 have HC := contains_no zs s w hz ((valid_iff zs hv.1 hv.2.1).1 hv)
 obtain ⟨a,len,cap,rfl,hl⟩ := hz.shape
 have h1 : 0 < len := by have := hv.1; omega
 have h2 : len <= 288 := by have := hv.2.1; omega
 have h3 : ((len : Int) == 0) = false := by rw [beq_eq_false_iff_ne]; omega
 have h4 : decide (288 < (len : Int)) = false := by simp; omega
 clear hz hv hl
 go_enter Tryz.func182,Tryz.ntmps182
 go_wp2_with fail
 refine HC.mono ?_
 clear HC
 rintro e w' ⟨rfl,rfl⟩
 go_wp2
 go_ret
 exact ⟨rfl,rfl⟩
theorem are_no (zs : List Int) (s : Value) (w : World) (hz : Zl w s zs) (hv : ¬ Valid zs) : Calls Tryz.prog 182 #[s] w fun e w' => e = .returned (.bool false) /\ w = w' := by
 obtain ⟨a,len,cap,rfl,hl⟩ := hz.shape
 by_cases g1 : len = 0
 ·have h3 : ((len : Int) == 0) = true := by rw [beq_iff_eq]; omega
  clear hz hv hl g1
  go_enter Tryz.func182,Tryz.ntmps182
  go_wp2
  go_ret
  exact ⟨rfl,rfl⟩
 ·have h3 : ((len : Int) == 0) = false := by rw [beq_eq_false_iff_ne]; omega
  by_cases g2 : 288 < len
  ·have h4 : decide (288 < (len : Int)) = true := by simp; omega
   clear hz hv hl
   go_enter Tryz.func182,Tryz.ntmps182
   go_wp2
   go_ret
   exact ⟨rfl,rfl⟩
  ·have h4 : decide (288 < (len : Int)) = false := by simp; omega
   have hb : ∃ i,i < zs.length /\ Bad (zs[i]?.getD 0) := by
    have := mt (valid_iff zs (by omega) (by omega)).2 hv
    simpa [Classical.not_forall] using this
   have HC := contains_yes zs _ w hz hb
   clear hz hv hl hb
   go_enter Tryz.func182,Tryz.ntmps182
   go_wp2_with fail
   refine HC.mono ?_
   clear HC
   rintro e w' ⟨rfl,rfl⟩
   go_wp2
   go_ret
   exact ⟨rfl,rfl⟩
def cmpr (t : Nat) : Int := if 32768 < t then 11 else if t < 32768 then 12 else 0
theorem compare_is (t : Nat) (w : World) : Calls Tryz.prog 183 #[.int .i64 (t : Int)] w fun e w' => e = .returned (.int .i64 (cmpr t)) /\ w = w' := by
 by_cases h : 32768 < t
 ·have e : cmpr t = 11 := by unfold cmpr; rw [if_pos h]
  have h1 : decide (32768 < (t : Int)) = true := by simp; omega
  rw [e]
  clear e
  go_enter Tryz.func183,Tryz.ntmps183
  go_wp2
  go_ret
  exact ⟨rfl,rfl⟩
 ·have h1 : decide (32768 < (t : Int)) = false := by simp; omega
  by_cases h2 : t < 32768
  ·have e : cmpr t = 12 := by unfold cmpr; rw [if_neg h,if_pos h2]
   have h3 : decide ((t : Int) < 32768) = true := by simp; omega
   rw [e]
   clear e
   go_enter Tryz.func183,Tryz.ntmps183
   go_wp2
   go_ret
   exact ⟨rfl,rfl⟩
  ·have e : cmpr t = 0 := by unfold cmpr; rw [if_neg h,if_neg h2]
   have h3 : decide ((t : Int) < 32768) = false := by simp; omega
   rw [e]
   clear e
   go_enter Tryz.func183,Tryz.ntmps183
   go_wp2
   go_ret
   exact ⟨rfl,rfl⟩
def takes (ls : List Nat) : Nat := takesOf (usedTo ls ls.length)
def chk (zs : List Int) : Int := if Valid zs then cmpr (takes (nat zs)) else 2
def One (w : World) (c : Int) (e : Ending) (w' : World) : Prop := e = .returned (.int .i64 c) /\ Below w.heap.size w w'
theorem check_any (zs : List Int) (s : Value) (w : World) (hz : Zl w s zs) : Calls Tryz.prog 145 #[s] w (One w (chk zs)) := by
 by_cases hv : Valid zs
 ·have e : chk zs = cmpr (takes (nat zs)) := if_pos hv
  rw [e]
  clear e
  have H1 := are_yes zs s w hz hv
  have H2 := taken_any s (nat zs) w (hv.lsl hz (Nat.le_refl _))
  obtain ⟨a,len,cap,rfl,hl⟩ := hz.shape
  have H3 := compare_is (takes (nat zs))
  unfold takes at H3 ⊢
  generalize takesOf (usedTo (nat zs) (nat zs).length) = t at H2 H3 ⊢
  clear hz hv hl
  go_enter Tryz.func145,Tryz.ntmps145
  go_wp2_with fail
  refine H1.mono ?_
  clear H1
  rintro e w' ⟨rfl,rfl⟩
  go_wp2_with fail
  refine H2.mono ?_
  clear H2
  rintro e w' ⟨rfl,hb⟩
  have HB := LH hb
  clear hb
  go_wp2_with fail
  refine (H3 _).mono ?_
  clear H3
  rintro e w2 ⟨rfl,rfl⟩
  go_wp2
  go_ret
  exact ⟨rfl,HB.out⟩
 ·have e : chk zs = 2 := if_neg hv
  rw [e]
  clear e
  have H1 := are_no zs s w hz hv
  obtain ⟨a,len,cap,rfl,hl⟩ := hz.shape
  clear hz hv hl
  go_enter Tryz.func145,Tryz.ntmps145
  go_wp2_with fail
  refine H1.mono ?_
  clear H1
  rintro e w' ⟨rfl,rfl⟩
  go_wp2
  go_ret
  exact ⟨rfl,Below.refl _ _⟩
end
section
open Go.RowKit Go.Shelf
attribute [local go_sem] Oper.semAt_some
def KeepC (C : Nat) (W W' : World) : Prop := ∀ (k : Nat) (o : Obj),W.heap[k]? = some o -> o.isCells = true -> k ≠ C -> W'.heap[k]? = some o
theorem KeepC.refl (C : Nat) (W : World) : KeepC C W W := fun _ _ h _ _ => h
theorem keepC_t {C : Nat} {A B D : World} (h : KeepC C A B) (k : KeepC C B D) : KeepC C A D := fun i o h1 h2 h3 => k i o (h i o h1 h2 h3) h2 h3
theorem keepC_b {C : Nat} {w : World} (W : World) (l : Nat) (_o o' : Obj) (_ : w.heap.size <= l) (h : W.heap[l]? = some _o) (hc : _o.isCells = false) (_ : _o.isWalk = false) : KeepC C W (W.putObj l o') := by
 intro k u hk hu _
 have hne : k ≠ l := by intro e; subst e; rw [h] at hk; cases hk; rw [hc] at hu; cases hu
 rw [World.putObj_heap_other (by omega)]; exact hk
theorem keepC_below {C : Nat} {W W' : World} (h : Below W.heap.size W W') : KeepC C W W' := fun k _ hk _ _ => (h.block k (Array.getElem?_eq_some_iff.1 hk).1).trans hk
theorem cells_of_cell {W : World} {g i : Nat} {v : Value} (h : W.cell? ⟨g,i,none⟩ = some v) : ∃ o,W.heap[g]? = some o /\ o.isCells = true := by
 unfold World.cell? at h
 simp only at h
 cases e : W.heap[g]? with
 | none => rw [e] at h; simp at h
 | some o =>
  rw [e] at h
  cases o <;> first | exact ⟨_,rfl,rfl⟩ | (simp at h)
theorem KeepC.cell {C : Nat} {W W' : World} (h : KeepC C W W') {g i : Nat} {v : Value} (hc : W.cell? ⟨g,i,none⟩ = some v) (hne : g ≠ C) : W'.cell? ⟨g,i,none⟩ = some v := by
 obtain ⟨o,h1,h2⟩ := cells_of_cell hc
 exact (cell_of_heap ((h g o h1 h2 hne).trans h1.symm) i).trans hc
theorem coded_in (n : Nat) (sv : Value) (a : Option Addr) (len cap : Nat) (hsv : sv = .slice a len cap) (w : World) :
  CallsIn Fence.wide n Tryz.prog 146 #[sv] w fun e w' => e = .returned (.func (.func 185) #[] #[.pointer (some ⟨w.heap.size,0,none⟩)]) /\ w' = w.alloc (.cells #[sv] 57) := by
 subst hsv
 refine callsIn_of_wp Tryz.func146 rfl trivial ?_ rfl
 simp only [Tryz.ntmps146,List.size_toArray,List.length_cons,List.length_nil,Nat.reduceAdd,Nat.reduceSub,Array.replicate_succ,Array.replicate_zero,List.push_toArray,List.append_toArray,List.nil_append,List.cons_append]
 gi_wp2
 go_ret
 exact ⟨rfl,rfl⟩
abbrev Pr (m : Nat) := { p : Nat × Nat // p.1 < m }
def Tells (ls : List Nat) {m : Nat} (k : Nat) (pre : List (Pr m)) : Prop := pre.map Subtype.val = Hf.codedTo ls k
theorem tells_length {ls : List Nat} {m k : Nat} {pre : List (Pr m)} (h : Tells ls k pre) : pre.length = k := by
 have := congrArg List.length h
 rwa [List.length_map,Hf.codedTo_length] at this
theorem wrap_succ (c : Nat) (h : c < 32768) : wrap64 ((c : Int) + 1) = ((c + 1 : Nat) : Int) := by
 rw [IntWalk.wrap64_in _ (by omega)]; omega
theorem wrap_shl (nx d c : Nat) (h : c = nx * 2 ^ d) (hc : c < 32768) : wrap64 ((nx : Int) * 2 ^ d) = (c : Int) := by
 have e : ((nx : Int) * 2 ^ d) = (c : Int) := by rw [h]; simp
 rw [e,IntWalk.wrap64_in _ (by omega)]
theorem coded1_in (n : Nat) (hn : 1 <= n) (l Bs C : Nat) (sv : Value) (ls : List Nat) (h15 : ∀ i,i < ls.length -> Hf.ln ls i <= 15) (hp : Hf.pf ls (Hf.ordl ls).length <= 32768) (J Jx : List (Pr ls.length) -> World -> Prop)
  (hY : ∀ pre x W,J pre W -> pre.length < (Hf.ordl ls).length -> YieldAt Fence.wide (n - 1) Tryz.prog l #[.int .i64 (x.1.1 : Int),.int .i64 (x.1.2 : Int)] W fun e W' =>
   (e = .returned (.bool true) /\ J (pre ++ [x]) W' /\ KeepC C W W') ∨ (e = .returned (.bool false) /\ Jx (pre ++ [x]) W'))
  (W : World) (hJ : AbidesFrom W.heap.size J) (hBs : W.cell? ⟨Bs,0,none⟩ = some sv) (hBC : Bs ≠ C) (hC : C < W.heap.size) (hCl : Lsl W.heap.size W sv ls) (hCb : ∀ b off len cap,sv = .slice (some ⟨b,off,none⟩) len cap -> b ≠ C) (h0 : J [] W) :
  CallsIn Fence.wide n Tryz.prog 185 #[.func (.yield l) #[] #[],.pointer (some ⟨Bs,0,none⟩)] W fun e W' => (∃ v,e = .returned v) /\
   ((∃ ys,Tells ls (Hf.ordl ls).length ys /\ J ys W') ∨ (∃ pre,True /\ Jx pre W')) := by
 have HO := ordered_any sv ls W hCl h15
 have HL := LH hCl
 obtain ⟨b,off,cap,rfl,hpos,h288,hb,hcl⟩ := hCl
 have hbC := hCb b off _ _ rfl
 have HCL := LH hcl
 clear hCb hcl
 refine callsIn_of_wp Tryz.func185 rfl trivial ?_ rfl
 simp only [Tryz.ntmps185,List.size_toArray,List.length_cons,List.length_nil,Nat.reduceAdd,Nat.reduceSub,Array.replicate_succ,Array.replicate_zero,List.push_toArray,List.append_toArray,List.nil_append,List.cons_append]
 gi_wp2_with (refine ⟨trivial,?_⟩; gi_at_call 186; refine (callsIn_wide.2 HO).mono ?_; rintro e w1 ⟨v,rfl,hv,hb1⟩)
 have h1 : J [] w1 := hJ _ _ w1 none h0 ⟨hb1.os,hb1.tape,hb1.output,hb1.size,fun k hk _ => hb1.block k hk⟩ (fun r e => by cases e)
 have HK1 : Hid (KeepC C W w1) := keepC_below hb1
 clear HO hb1 h0
 rcases hv with ⟨rfl,hnil⟩ | ⟨g,cap2,rfl,hle2,hg,hrow⟩
 ·have HN := LH hnil
  clear hnil
  go_simp
  gi_wp2
  gi_loopw [3,4,10] (fun _ _ s10 wr => s10 = .int .i64 0 /\ J [] wr) (fun _ _ _ _ => 0)
  case atStart => exact ⟨rfl,h1⟩
  case round =>
   obtain ⟨rfl,hJs⟩ := hrel
   gi_wp2
   go_end0
   exact ⟨⟨_,rfl⟩,.inl ⟨[],by rw [HN.out]; rfl,hJs⟩⟩
 ·obtain ⟨N,hN⟩ : ∃ N,N = (Hf.ordl ls).length := ⟨_,rfl⟩
  have HN := LH hN
  have HR := LH hrow
  rw [<- hN] at hY hp
  have HP := LH (fun _ : Unit => hp)
  rw [<- hN]
  have hN2 : N <= 288 := by have := Hf.ordl_length_le ls; omega
  clear hN hrow hp
  go_simp
  gi_wp2
  gi_loopw [3,4,10] (fun s3 s4 s10 wr => ∃ (k nx le : Nat) (pre : List (Pr ls.length)),k <= N /\ s3 = .int .i64 nx /\ s4 = .int .i64 le /\ s10 = .int .i64 k /\ Hid (Hf.st ls k = (nx,le)) /\ Hid (Tells ls k pre) /\ J pre wr /\ Hid (KeepC C w1 wr))
   (fun _ _ s10 _ => N - (intOf s10).toNat)
  case atStart => exact ⟨0,0,0,[],Nat.zero_le _,rfl,rfl,rfl,rfl,rfl,h1,KeepC.refl _ _⟩
  case round =>
   obtain ⟨k,nx,le,pre,hk,rfl,rfl,rfl,KS,KT,hJs,KK⟩ := hrel
   have hkn := tells_length KT.out
   by_cases hlt : k < N
   ·obtain ⟨x,hx⟩ : ∃ x,x = Hf.sy ls k := ⟨_,rfl⟩
    obtain ⟨hx1,hx2,hx3⟩ := Hf.sy_mem ls k (by rw [<- HN.out]; exact hlt)
    rw [<- hx] at hx1 hx2 hx3
    obtain ⟨lx,hlx⟩ : ∃ lx,lx = Hf.ln ls x := ⟨_,rfl⟩
    have hle : le <= lx := by
     have := Hf.st_le ls k (by rw [<- HN.out]; exact hlt)
     rw [KS.out,<- hx,<- hlx] at this; exact this
    have cg : wr.cell? ⟨g,k,none⟩ = some (.int .i64 (x : Int)) := by
     have := HR.out.cell k (by rw [<- HN.out]; exact hlt)
     rw [show (Hf.ordl ls)[k]?.getD 0 = x from hx.symm] at this
     exact KK.out.cell this (by omega)
    have cl : wr.cell? ⟨b,off + x,none⟩ = some (.int .i64 (lx : Int)) := by
     have := HCL.out x hx1
     rw [show ls[x]?.getD 0 = lx from hlx.symm] at this
     exact KK.out.cell (HK1.out.cell this hbC) hbC
    have cB : wr.cell? ⟨Bs,0,none⟩ = some (.slice (some ⟨b,off,none⟩) ls.length cap) := KK.out.cell (HK1.out.cell hBs hBC) hBC
    obtain ⟨c,hc⟩ : ∃ c,c = Hf.cd ls k := ⟨_,rfl⟩
    have hc2 := Hf.cd_small ls k (by rw [<- HN.out]; exact hlt) (by rw [<- HN.out]; exact HP.out ())
    have hc3 : c = nx * 2 ^ (lx - le) := by rw [hc]; unfold Hf.cd; rw [KS.out,<- hx,<- hlx]
    have KS2 : Hid (Hf.st ls (k + 1) = (c + 1,lx)) := by show _ = _; rw [Hf.st_succ,<- hc,<- hx,<- hlx]
    rw [<- hc] at hc2
    obtain ⟨d,hd⟩ : ∃ d : Nat,d = lx - le := ⟨_,rfl⟩
    rw [<- hd] at hc3
    have hd2 : (lx : Int) - (le : Int) = (d : Int) := by omega
    have KT2 : ∀ hxx : x < ls.length,Hid (Tells ls (k + 1) (pre ++ [(⟨(x,c),hxx⟩ : Pr ls.length)])) := fun hxx => by
     show List.map _ _ = _
     rw [List.map_append,show List.map Subtype.val pre = _ from KT.out]; simp only [Hf.codedTo,List.map_cons,List.map_nil,<- hc,<- hx]
    obtain ⟨fn,tmps,assign,body,hy,hR⟩ := hY pre ⟨(x,c),hx1⟩ wr hJs (by omega)
    dsimp only at hy
    have hw : Value.int .i64 (wrap64 ((nx : Int) * 2 ^ d)) = Value.int .i64 (c : Int) := by rw [wrap_shl nx d c hc3 hc2]
    clear hc3
    have HC2 := LH (fun _ : Unit => hc2)
    have hc4 : (c : Int) < 32768 := by omega
    clear hc2
    have hlx15 : lx <= 15 := by omega
    clear hx hlx hc hd hx2 hx3 hkn
    gi_wp2
    refine hR.mono ?_
    rintro e W3 (⟨rfl,hJ3,hk3⟩ | ⟨rfl,hJx3⟩)
    ·gi_wp2
     go_roundw
     case rel => exact ⟨k + 1,c + 1,lx,_,by omega,by first | rw [wrap_succ c (HC2.out ())] | go_num,rfl,by go_num,KS2,KT2 hx1,hJ3,keepC_t KK.out hk3⟩
     case measure => simp [intOf]; omega
    ·gi_wp2
     refine bodyPost_ret (results_none rfl _ _ _) rfl ?_
     exact ⟨⟨_,rfl⟩,.inr ⟨_,trivial,hJx3⟩⟩
   ·obtain rfl : k = N := by omega
    clear hkn
    gi_wp2
    go_end0
    exact ⟨⟨_,rfl⟩,.inl ⟨pre,by rw [<- HN.out]; exact KT.out,hJs⟩⟩
end
section
open Go.RowKit Go.Shelf
attribute [local go_sem] Oper.semAt_some
theorem coded_stops (n : Nat) (hn : 1 <= n) (Bs C : Nat) (sv : Value) (ls : List Nat) (h15 : ∀ i,i < ls.length -> Hf.ln ls i <= 15) (hp : Hf.pf ls (Hf.ordl ls).length <= 32768) (w : World) (hBs : Bs < w.heap.size)
  (hc : w.cell? ⟨Bs,0,none⟩ = some sv) (hBC : Bs ≠ C) (hC : C < w.heap.size) (hL : Lsl w.heap.size w sv ls) (hCb : ∀ b off len cap,sv = .slice (some ⟨b,off,none⟩) len cap -> b ≠ C) :
  SeqStopsK Fence.wide n Tryz.prog 185 #[.pointer (some ⟨Bs,0,none⟩)] (fun x : Pr ls.length => #[Value.int .i64 (x.1.1 : Int),Value.int .i64 (x.1.2 : Int)]) (KeepC C) (fun ys => Tells ls (Hf.ordl ls).length ys) (fun _ => True) (Hf.ordl ls).length w := fun l J Jx W hW hJ _ hY h0 => by
 refine coded1_in n hn l Bs C sv ls h15 hp J Jx hY W hJ ((hW.cell (p := ⟨Bs,0,none⟩) hBs).trans hc) hBC (Nat.lt_of_lt_of_le hC hW.size) ?_ hCb h0
 obtain ⟨b,off,cap,e1,e2,e3,e4,e5⟩ := hL.below hW
 exact ⟨b,off,cap,e1,e2,e3,Nat.lt_of_lt_of_le e4 hW.size,e5⟩
theorem takes_tk (ls : List Nat) (h15 : ∀ i,i < ls.length -> Hf.ln ls i <= 15) (k : Nat) (hk : k <= ls.length) : takesOf (usedTo ls k) = Hf.tk ls (fun x => decide (0 < x)) k := by
 induction k with
 | zero => rfl
 | succ k ih =>
  have h := h15 k (by omega)
  simp only [usedTo,Hf.tk]
  by_cases h0 : ls[k]?.getD 0 = 0
  ·rw [if_pos h0,List.append_nil,if_neg (by show ¬ decide (0 < ls[k]?.getD 0) = true; simp [h0]),ih (by omega)]; omega
  ·have h1 : 0 < Hf.ln ls k := by show 0 < ls[k]?.getD 0; omega
   rw [if_neg h0,takesOf_snoc,ih (by omega),if_pos (by simpa using h1)]
   congr 1
   show 32768 / 2 ^ min (Hf.ln ls k) 64 = _
   rw [Nat.min_eq_left (by omega)]
   have e : (32768 : Nat) = 2 ^ (15 - Hf.ln ls k) * 2 ^ Hf.ln ls k := by rw [<- Nat.pow_add,show 15 - Hf.ln ls k + Hf.ln ls k = 15 by omega]
   rw [e,Nat.mul_div_cancel _ (Nat.two_pow_pos _)]
theorem takes_pf (ls : List Nat) (h15 : ∀ i,i < ls.length -> Hf.ln ls i <= 15) : Hf.pf ls (Hf.ordl ls).length = takes ls := by
 rw [Hf.pf_all ls h15]
 exact (takes_tk ls h15 _ (Nat.le_refl _)).symm
def Fit (zs : List Int) : Prop := chk zs = 0 ∨ chk zs = 12
instance (zs : List Int) : Decidable (Fit zs) := by unfold Fit; infer_instance
theorem Fit.valid {zs : List Int} (h : Fit zs) : Valid zs := by
 by_cases hv : Valid zs
 ·exact hv
 ·unfold Fit chk at h; rw [if_neg hv] at h; omega
theorem Fit.pf {zs : List Int} (h : Fit zs) : Hf.pf (nat zs) (Hf.ordl (nat zs)).length <= 32768 := by
 have hv := h.valid
 rw [takes_pf _ (fun i hi => hv.le i hi)]
 unfold Fit chk cmpr at h
 rw [if_pos hv] at h
 by_cases g : 32768 < takes (nat zs)
 ·rw [if_pos g] at h; omega
 ·omega
def CodesPost (w : World) (xs : List Nat) (e : Ending) (w' : World) : Prop := ∃ v,e = .returned (.tuple #[v,.int .i64 0]) /\ Il w.heap.size w' v xs /\ Below w.heap.size w w'
theorem keepC_set (W : World) (C i : Nat) (v : Value) : KeepC C W (W.setCell ⟨C,i,none⟩ v) := fun k _ h _ hne => (Below.heap_setCell W ⟨C,i,none⟩ v k hne).trans h
theorem row_kept {W W' : World} {g n : Nat} {d : Nat -> Nat} {row : Option Nat} (h : Rw W g n d) (hg : W.grownBy W' row) (hr : ∀ r,row = some r -> ∃ o : Obj,W.heap[r]? = some o /\ o.isCells = false) : Rw W' g n d :=
 ⟨Nat.lt_of_lt_of_le h.lt hg.size,fun i hi => cell_kept (h.cell i hi) hg hr,fun i hi => (frozen_kept (h.cell i hi) hg hr).trans (h.free i hi)⟩
theorem row_set {W : World} {g n : Nat} {d d' : Nat -> Nat} (h : Rw W g n d) (p v : Nat) (hp : p < n) (hd : ∀ i,i < n -> d' i = if i = p then v else d i) : Rw (W.setCell ⟨g,p,none⟩ (.int .i64 (v : Int))) g n d' := by
 refine ⟨by simpa using h.lt,fun i hi => ?_,fun i hi => by rw [World.frozen?_setCell]; exact h.free i hi⟩
 rw [hd i hi]
 by_cases e : i = p
 ·rw [if_pos e,e]
  exact World.cell?_setCell_same' _ _ _ (by rw [h.cell p hp]; rfl)
 ·rw [if_neg e,World.cell?_setCell_other _ _ _ _ (addr_ne g (by omega))]
  exact h.cell i hi
theorem made_nat (w : World) (n : Nat) : Rw (w.alloc (.cells (madeCells #[Value.int .i64 0] n) 3)) w.heap.size n (fun _ => 0) := by
 have h : Has (w.alloc (.cells (madeCells #[Value.int .i64 0] n) 3)) w.heap.size (.cells (madeCells #[Value.int .i64 0] n) 3 (0,0)) := Has.new w _
 refine ⟨by simp,fun i hi => ?_,fun i _ => h.free i⟩
 rw [h.cell i]
 rw [<- Array.getElem?_toList,toList_madeCells_one]
 simp [hi]
theorem codes_world (w1 : World) (len : Nat) (a : Option Addr) (cap : Nat) (w3 : World) (hw : w3 = ((w1.alloc (.cells (madeCells #[Value.int IntKind.i64 0] len) 3)).alloc (.cells #[Value.slice (some ⟨w1.heap.size,0,none⟩) len len] 57)).alloc (.cells #[Value.slice a len cap] 57)) :
  Rw w3 w1.heap.size len (fun i => (Hf.outOf len (([] : List (Pr len)).map Subtype.val))[i]?.getD 0) /\ w3.cell? ⟨w1.heap.size + 1,0,none⟩ = some (.slice (some ⟨w1.heap.size,0,none⟩) len len) /\
   w3.cell? ⟨w1.heap.size + 1 + 1,0,none⟩ = some (.slice a len cap) /\ Below w1.heap.size w1 w3 := by
 subst hw
 have h1 := made_nat w1 len
 have b2 := Boxed.new (w1.alloc (.cells (madeCells #[Value.int IntKind.i64 0] len) 3)) 57 (.slice (some ⟨w1.heap.size,0,none⟩) len len)
 have b3 := Boxed.new ((w1.alloc (.cells (madeCells #[Value.int IntKind.i64 0] len) 3)).alloc (.cells #[Value.slice (some ⟨w1.heap.size,0,none⟩) len len] 57)) 57 (.slice a len cap)
 have e2 : (w1.alloc (.cells (madeCells #[Value.int IntKind.i64 0] len) 3)).heap.size = w1.heap.size + 1 := by simp
 have e3 : ((w1.alloc (.cells (madeCells #[Value.int IntKind.i64 0] len) 3)).alloc (.cells #[Value.slice (some ⟨w1.heap.size,0,none⟩) len len] 57)).heap.size = w1.heap.size + 1 + 1 := by simp
 rw [e2] at b2
 rw [e3] at b3
 refine ⟨?_,(b2.alloc _).cell,b3.cell,below3 _ _ _ _⟩
 have hk := (row_kept (row_kept h1 (World.grownBy_alloc _ (.cells #[Value.slice (some ⟨w1.heap.size,0,none⟩) len len] 57) none) (fun r e => by cases e)) (World.grownBy_alloc _ (.cells #[Value.slice a len cap] 57) none) (fun r e => by cases e))
 refine ⟨hk.lt,fun i hi => ?_,hk.free⟩
 rw [hk.cell i hi]
 simp [Hf.outOf,hi]
theorem codes_step {w W : World} {C len : Nat} {ps : List (Nat × Nat)} (hr : Rw W C len (fun i => (Hf.outOf len ps)[i]?.getD 0)) (hcB : W.cell? ⟨C + 1,0,none⟩ = some (.slice (some ⟨C,0,none⟩) len len)) (hB : Below w.heap.size w W) (x : Nat × Nat) (hx : x.1 < len) (hC : w.heap.size <= C) :
  (Rw (W.setCell ⟨C,x.1,none⟩ (.int .i64 (x.2 : Int))) C len (fun i => (Hf.outOf len (ps ++ [x]))[i]?.getD 0) /\ (W.setCell ⟨C,x.1,none⟩ (.int .i64 (x.2 : Int))).cell? ⟨C + 1,0,none⟩ = some (.slice (some ⟨C,0,none⟩) len len)) /\ Below w.heap.size w (W.setCell ⟨C,x.1,none⟩ (.int .i64 (x.2 : Int))) := by
 refine ⟨⟨row_set hr x.1 x.2 hx fun i hi => ?_,?_⟩,hB.setCell (p := ⟨C,x.1,none⟩) hC _⟩
 ·rw [Hf.outOf_snoc]
  by_cases e : i = x.1
  ·rw [if_pos e,e,List.getElem?_set_self (by rw [Hf.outOf_length]; exact hx)]; rfl
  ·rw [if_neg e,List.getElem?_set_ne (by omega)]
 ·rw [World.cell?_setCell_other _ _ _ _ (fun e => by cases e)]
  exact hcB
theorem codes_done {w w1 W : World} {len D : Nat} {ls : List Nat} {ys : List (Pr ls.length)} (hr : Rw W w1.heap.size len (fun i => (Hf.outOf len (ys.map Subtype.val))[i]?.getD 0)) (hl : len = ls.length) (hT : Tells ls (Hf.ordl ls).length ys) (hB : Below w.heap.size w W)
  (hsz : w.heap.size <= w1.heap.size) (hD : w.heap.size <= D) (hK : W.heap[D]? = some (.deferred (some []))) :
  Il w.heap.size (W.putObj D (.deferred none)) (.slice (some ⟨w1.heap.size,0,none⟩) len len) (Hf.codes ls) /\ Below w.heap.size w (W.putObj D (.deferred none)) := by
 have e : Hf.outOf len (ys.map Subtype.val) = Hf.codes ls := by rw [show ys.map Subtype.val = _ from hT,hl]; rfl
 have hDW := (Array.getElem?_eq_some_iff.1 hK).1
 refine ⟨Or.inr ⟨w1.heap.size,len,by rw [Hf.codes_length,hl],by rw [Hf.codes_length,hl]; exact Nat.le_refl _,hsz,?_⟩,hB.trans ((Below.refl w.heap.size W).grown (grownBy_putObj' W D _) (by omega) (fun k e => by cases e; omega))⟩
 rw [Hf.codes_length,<- hl,<- e]
 exact row_kept hr (grownBy_putObj' W D _) (fun r e => by cases e; exact ⟨_,hK,rfl⟩)
theorem codes_in (n : Nat) (hn : 3 <= n) (zs : List Int) (s : Value) (w : World) (hz : Zl w s zs) (hf : Fit zs) : CallsIn Fence.wide n Tryz.prog 101 #[s] w (CodesPost w (Hf.codes (nat zs))) := by
 have h1 : 1 <= n := by omega
 have HC := check_any zs s w hz
 have HL := LH (hf.valid.lsl hz (Nat.le_refl _))
 have HF := LH hf
 obtain ⟨a,len,cap,rfl,hl⟩ := hz.shape
 have hl2 : len <= 288 := by have := hf.valid.2.1; omega
 have hl1 : 0 < len := by have := hf.valid.1; omega
 have HLN : Hid (len = (nat zs).length) := by show _ = _; rw [nat_length,hl]
 unfold Fit at hf
 obtain ⟨c,hc⟩ : ∃ c,c = chk zs := ⟨_,rfl⟩
 rw [<- hc] at HC hf
 have hmk := run_make_row' (P := Tryz.prog) 57 3 (.int .i64 0) 8 Tryz.underlying57 Tryz.infoInt rfl .i64 .i64 len (by omega) (by omega)
 clear hz hl hc
 refine callsIn_of_wp_marks Tryz.func101 rfl trivial ?_ rfl
 simp only [Tryz.ntmps101,List.size_toArray,List.length_cons,List.length_nil,Nat.reduceAdd,Nat.reduceSub,Array.replicate_succ,Array.replicate_zero,List.push_toArray,List.append_toArray,List.nil_append,List.cons_append]
 rcases hf with rfl | rfl
 ·gi_wp2_with (first | (refine ⟨trivial,?_⟩; gi_at_call 145; refine (callsIn_wide.2 HC).mono ?_; rintro e w1 ⟨rfl,hb1⟩) | (refine ⟨trivial,?_⟩; gi_at_call 146; refine (coded_in (n - 1) _ _ _ _ rfl _).mono ?_; rintro e w' ⟨rfl,rfl⟩))
  have hz3 : (((w1.alloc (.cells (madeCells #[Value.int IntKind.i64 0] len) 3)).alloc (.cells #[Value.slice (some ⟨w1.heap.size,0,none⟩) len len] 57)).alloc (.cells #[Value.slice a len cap] 57)).heap.size = w1.heap.size + 3 := by simp
  obtain ⟨w3,hw3⟩ : ∃ w3,w3 = ((w1.alloc (.cells (madeCells #[Value.int IntKind.i64 0] len) 3)).alloc (.cells #[Value.slice (some ⟨w1.heap.size,0,none⟩) len len] 57)).alloc (.cells #[Value.slice a len cap] 57) := ⟨_,rfl⟩
  obtain ⟨F1,F2,F3,F4⟩ := codes_world w1 len a cap w3 hw3
  rw [<- hw3] at hz3 ⊢
  have hsz1 := hb1.size
  have hB3 : Below w.heap.size w w3 := hb1.trans (F4.mono hsz1)
  have hLs : Lsl w.heap.size w3 (.slice a len cap) (nat zs) := HL.out.below hB3
  have hbb : ∀ b off len' cap',Value.slice a len cap = .slice (some ⟨b,off,none⟩) len' cap' -> b ≠ w1.heap.size := by
   intro b' off' len' cap' e
   obtain ⟨b,off,cap2,e1,_,_,e4,_⟩ := HL.out
   rw [e1] at e; cases e; omega
  have hLs2 : Lsl w3.heap.size w3 (.slice a len cap) (nat zs) := by
   obtain ⟨b,off,cap2,e1,e2,e3,e4,e5⟩ := hLs
   exact ⟨b,off,cap2,e1,e2,e3,by omega,e5⟩
  have hv := HF.out.valid
  clear hw3
  refine wpIn_rangeFunc_ownG rfl h1 (gf := 185) (lb := #[.pointer (some ⟨w1.heap.size + 1 + 1,0,none⟩)]) rfl trivial (enters_of Tryz.func185 (by kernel_rfl) rfl)
   (coded_stops (n - 1) (by omega) (w1.heap.size + 1 + 1) w1.heap.size _ (nat zs) (fun i hi => hv.le i hi) HF.out.pf w3 (by omega) F3 (by omega) (by omega) hLs2 hbb) keepC_t keepC_b (Below.refl _ _) (fun _ => rfl)
   (fun pre W => (Rw W w1.heap.size len (fun i => (Hf.outOf len (pre.map Subtype.val))[i]?.getD 0) /\ W.cell? ⟨w1.heap.size + 1,0,none⟩ = some (.slice (some ⟨w1.heap.size,0,none⟩) len len)) /\ Below w.heap.size w W)
   (fun _ _ _ => False)
   (OwnFrom.and (Own.from (fun s A B row hs hg hr => ⟨row_kept hs.1 hg hr,cell_kept hs.2 hg hr⟩) _) (ownFrom_below (Nat.le_refl _) (by omega)))
   (fun _ _ _ _ _ hs _ _ => hs)
   ⟨⟨F1,F2⟩,hB3⟩
   (fun x => { tmps := #[.slice a len cap,undef,.slice none 0 0,.int .i64 0,.int .i64 0,.pointer (some ⟨w1.heap.size + 1,0,none⟩),.int .i64 (x.1.1 : Int),.int .i64 (x.1.2 : Int),.slice a len cap,.int .i64 0,.int .i64 0,.bool false,.bool false,undef,undef,.bool false,undef,.slice a len cap,.int .i64 (len : Int),.slice (some ⟨w1.heap.size,0,none⟩) len len,.slice a len cap,.func (.func 185) #[] #[.pointer (some ⟨w1.heap.size + 1 + 1,0,none⟩)],.int .i64 (x.1.1 : Int),.int .i64 (x.1.2 : Int),undef,undef,undef,undef,undef],defers := [] }) ?assign ?body ?done ?stop
  case assign =>
   intro l x W K hK
   gi_wp2
   exact hK
  case body =>
   rintro l pre x W ⟨⟨hr,hcB⟩,hB⟩ hlt
   have hx : x.1.1 < len := by have := x.2; have := HLN.out; omega
   have st := codes_step hr hcB hB x.1 hx (by omega)
   have ST := LH st
   have hcx := hr.cell x.1.1 hx
   have hfx := hr.free x.1.1 hx
   obtain ⟨q,hq⟩ : ∃ q,q = x.1.1 := ⟨_,rfl⟩
   obtain ⟨r,hr2⟩ : ∃ r,r = x.1.2 := ⟨_,rfl⟩
   rw [<- hq] at hx hcx hfx ST ⊢
   rw [<- hr2] at ST ⊢
   have HQ := LH hq
   clear st hr hq hr2
   gi_wp2
   have ST2 := ST.out
   rw [show List.map Subtype.val pre ++ [x.1] = List.map Subtype.val (pre ++ [x]) by simp] at ST2
   exact ⟨(KeepsOthers.setCell _ _ _).from _,keepC_set _ _ _ _,ST2⟩
  case done =>
   rintro D ys W hD hT ⟨⟨hr,hcB⟩,hB⟩ hK
   gi_wp2
   have fin := codes_done hr HLN.out hT hB hsz1 (by omega) hK
   refine ⟨by simp,.inl ⟨_,_,rfl,run_takeDeferred hK,?_⟩⟩
   refine ⟨.tuple #[.slice (some ⟨w1.heap.size,0,none⟩) len len,.int .i64 0],by simp [results,Tryz.f101,go_sem],?_⟩
   exact ⟨_,rfl,fin.1,fin.2⟩
  case stop =>
   rintro D c pre W _ _ h _
   exact h.elim
 ·gi_wp2_with (first | (refine ⟨trivial,?_⟩; gi_at_call 145; refine (callsIn_wide.2 HC).mono ?_; rintro e w1 ⟨rfl,hb1⟩) | (refine ⟨trivial,?_⟩; gi_at_call 146; refine (coded_in (n - 1) _ _ _ _ rfl _).mono ?_; rintro e w' ⟨rfl,rfl⟩))
  have hz3 : (((w1.alloc (.cells (madeCells #[Value.int IntKind.i64 0] len) 3)).alloc (.cells #[Value.slice (some ⟨w1.heap.size,0,none⟩) len len] 57)).alloc (.cells #[Value.slice a len cap] 57)).heap.size = w1.heap.size + 3 := by simp
  obtain ⟨w3,hw3⟩ : ∃ w3,w3 = ((w1.alloc (.cells (madeCells #[Value.int IntKind.i64 0] len) 3)).alloc (.cells #[Value.slice (some ⟨w1.heap.size,0,none⟩) len len] 57)).alloc (.cells #[Value.slice a len cap] 57) := ⟨_,rfl⟩
  obtain ⟨F1,F2,F3,F4⟩ := codes_world w1 len a cap w3 hw3
  rw [<- hw3] at hz3 ⊢
  have hsz1 := hb1.size
  have hB3 : Below w.heap.size w w3 := hb1.trans (F4.mono hsz1)
  have hLs : Lsl w.heap.size w3 (.slice a len cap) (nat zs) := HL.out.below hB3
  have hbb : ∀ b off len' cap',Value.slice a len cap = .slice (some ⟨b,off,none⟩) len' cap' -> b ≠ w1.heap.size := by
   intro b' off' len' cap' e
   obtain ⟨b,off,cap2,e1,_,_,e4,_⟩ := HL.out
   rw [e1] at e; cases e; omega
  have hLs2 : Lsl w3.heap.size w3 (.slice a len cap) (nat zs) := by
   obtain ⟨b,off,cap2,e1,e2,e3,e4,e5⟩ := hLs
   exact ⟨b,off,cap2,e1,e2,e3,by omega,e5⟩
  have hv := HF.out.valid
  clear hw3
  refine wpIn_rangeFunc_ownG rfl h1 (gf := 185) (lb := #[.pointer (some ⟨w1.heap.size + 1 + 1,0,none⟩)]) rfl trivial (enters_of Tryz.func185 (by kernel_rfl) rfl)
   (coded_stops (n - 1) (by omega) (w1.heap.size + 1 + 1) w1.heap.size _ (nat zs) (fun i hi => hv.le i hi) HF.out.pf w3 (by omega) F3 (by omega) (by omega) hLs2 hbb) keepC_t keepC_b (Below.refl _ _) (fun _ => rfl)
   (fun pre W => (Rw W w1.heap.size len (fun i => (Hf.outOf len (pre.map Subtype.val))[i]?.getD 0) /\ W.cell? ⟨w1.heap.size + 1,0,none⟩ = some (.slice (some ⟨w1.heap.size,0,none⟩) len len)) /\ Below w.heap.size w W)
   (fun _ _ _ => False)
   (OwnFrom.and (Own.from (fun s A B row hs hg hr => ⟨row_kept hs.1 hg hr,cell_kept hs.2 hg hr⟩) _) (ownFrom_below (Nat.le_refl _) (by omega)))
   (fun _ _ _ _ _ hs _ _ => hs)
   ⟨⟨F1,F2⟩,hB3⟩
   (fun x => { tmps := #[.slice a len cap,undef,.slice none 0 0,.int .i64 0,.int .i64 12,.pointer (some ⟨w1.heap.size + 1,0,none⟩),.int .i64 (x.1.1 : Int),.int .i64 (x.1.2 : Int),.slice a len cap,.int .i64 12,.int .i64 12,.bool true,.bool true,.int .i64 12,.bool false,.bool false,undef,.slice a len cap,.int .i64 (len : Int),.slice (some ⟨w1.heap.size,0,none⟩) len len,.slice a len cap,.func (.func 185) #[] #[.pointer (some ⟨w1.heap.size + 1 + 1,0,none⟩)],.int .i64 (x.1.1 : Int),.int .i64 (x.1.2 : Int),undef,undef,undef,undef,undef],defers := [] }) ?assign ?body ?done ?stop
  case assign =>
   intro l x W K hK
   gi_wp2
   exact hK
  case body =>
   rintro l pre x W ⟨⟨hr,hcB⟩,hB⟩ hlt
   have hx : x.1.1 < len := by have := x.2; have := HLN.out; omega
   have st := codes_step hr hcB hB x.1 hx (by omega)
   have ST := LH st
   have hcx := hr.cell x.1.1 hx
   have hfx := hr.free x.1.1 hx
   obtain ⟨q,hq⟩ : ∃ q,q = x.1.1 := ⟨_,rfl⟩
   obtain ⟨r,hr2⟩ : ∃ r,r = x.1.2 := ⟨_,rfl⟩
   rw [<- hq] at hx hcx hfx ST ⊢
   rw [<- hr2] at ST ⊢
   have HQ := LH hq
   clear st hr hq hr2
   gi_wp2
   have ST2 := ST.out
   rw [show List.map Subtype.val pre ++ [x.1] = List.map Subtype.val (pre ++ [x]) by simp] at ST2
   exact ⟨(KeepsOthers.setCell _ _ _).from _,keepC_set _ _ _ _,ST2⟩
  case done =>
   rintro D ys W hD hT ⟨⟨hr,hcB⟩,hB⟩ hK
   gi_wp2
   have fin := codes_done hr HLN.out hT hB hsz1 (by omega) hK
   refine ⟨by simp,.inl ⟨_,_,rfl,run_takeDeferred hK,?_⟩⟩
   refine ⟨.tuple #[.slice (some ⟨w1.heap.size,0,none⟩) len len,.int .i64 0],by simp [results,Tryz.f101,go_sem],?_⟩
   exact ⟨_,rfl,fin.1,fin.2⟩
  case stop =>
   rintro D c pre W _ _ h _
   exact h.elim
theorem codes_ok (zs : List Int) (s : Value) (w : World) (hz : Zl w s zs) (hf : Fit zs) : Calls Tryz.prog 101 #[s] w (CodesPost w (Hf.codes (nat zs))) := callsIn_wide.1 (codes_in 3 (Nat.le_refl _) zs s w hz hf)
end
section
open Go.RowKit Go.Shelf
attribute [local go_sem] Oper.semAt_some
def Lone (ls : List Nat) : Prop := (Hf.ordl ls).length = 1 /\ Hf.ln ls (Hf.sy ls 0) = 1
instance (ls : List Nat) : Decidable (Lone ls) := by unfold Lone; infer_instance
end
section
open Go Go.RowKit Go.Shelf
def noDefer (ops : Array Oper) : Bool := ops.toList.all fun o => match o.op with | .defer _ => false | _ => true
theorem noDefer_at {ops : Array Oper} (h : noDefer ops = true) {i : Nat} {o : Oper} (ho : ops[i]? = some o) : ∀ c,o.op ≠ .defer c := by
 intro c e
 have hm : o ∈ ops.toList := by
  rw [<- Array.getElem?_toList] at ho
  exact List.mem_of_getElem? ho
 have := List.all_eq_true.1 h o hm
 rw [e] at this
 cases this
theorem upon_round {F : Fence} {n : Nat} {P : Program} {o : Oper} {a : Act} {K : Act -> World -> Prop} {Q : Exit -> Act -> World -> Prop} (l : Nat) {r : Result Next} (h : o.uponIn F n P a K Q r) : o.uponIn (F.inRound l) n P a K Q r := by
 cases r with
 | ok x w' => cases x <;> exact h
 | halt x w' => cases x <;> exact h
theorem wpAny_round {F : Fence} {n : Nat} {P : Program} {md : Region.Mode} {ops : Array Oper} {Q : Exit -> Act -> World -> Prop} (l : Nat) (hd : noDefer ops = true) :
  ∀ (fuel : Nat) (listed : Array Bool) (a : Act) (w : World),wpAnyIn F n P md ops Q fuel listed a w -> wpAnyIn (F.inRound l) n P md ops Q fuel listed a w := by
 intro fuel
 induction fuel with
 | zero => intro listed a w h; exact h
 | succ fuel ih =>
  intro listed a w h
  refine ⟨h.1,fun i hi => ?_⟩
  have h2 := wpOpIn_mono (K' := wpAnyIn (F.inRound l) n P md ops Q fuel (listed.setIfInBounds i true)) (fun a w h => ih _ a w h) (h.2 i hi)
  unfold wpOpIn at h2 ⊢
  split
  ·rename_i ho; rw [ho] at h2; exact h2
  ·rename_i o ho
   rw [ho] at h2
   simp only at h2 ⊢
   split
   ·rename_i hw
    rw [if_pos hw] at h2
    unfold Oper.wpIn at h2 ⊢
    refine ⟨h2.1,?_⟩
    have e : o.semAt (F.inRound l).round a.eval = o.semAt F.round a.eval := by
     rw [Oper.semAt_eq _ _ _ (noDefer_at hd ho),Oper.semAt_eq _ _ _ (noDefer_at hd ho)]
    rw [e]
    exact upon_round l h2.2
   ·rename_i hw
    rw [if_neg hw] at h2
    exact h2
end
section
namespace Hf
def mm (ls : List Nat) (l : Nat) : Nat := (ordTo ls l).length
theorem mm_zero (ls : List Nat) : mm ls 0 = 0 := rfl
theorem ordTo_ordl (ls : List Nat) (l : Nat) (hl : l <= 15) : ordTo ls l <+: ordl ls := by
 have := ordTo_pre ls l (15 - l)
 rwa [show l + (15 - l) = 15 by omega] at this
theorem mm_le (ls : List Nat) (l : Nat) (hl : l <= 15) : mm ls l <= (ordl ls).length := (ordTo_ordl ls l hl).length_le
theorem sy_pre (ls : List Nat) (l k : Nat) (hl : l <= 15) (hk : k < mm ls l) : (ordTo ls l)[k]? = some (sy ls k) := by
 obtain ⟨t,ht⟩ := ordTo_ordl ls l hl
 unfold sy
 rw [<- ht,List.getElem?_append_left hk,List.getElem?_eq_getElem hk]
 rfl
theorem mm_iff (ls : List Nat) (l k : Nat) (hl : l <= 15) (hk : k < (ordl ls).length) : k < mm ls l ↔ ln ls (sy ls k) <= l := by
 constructor
 ·intro h
  have := List.mem_of_getElem? (sy_pre ls l k hl h)
  exact ((mem_ordTo ls l _).1 this).2.2
 ·intro h
  have hm := sy_mem ls k hk
  have : sy ls k ∈ ordTo ls l := (mem_ordTo ls l _).2 ⟨hm.1,hm.2.1,h⟩
  obtain ⟨i,hi,e⟩ := List.getElem_of_mem this
  have h2 := sy_pre ls l i hl hi
  rw [List.getElem?_eq_getElem hi,e] at h2
  have h3 : sy ls k = sy ls i := by simpa using h2
  have h4 := mm_le ls l hl
  have := sy_inj ls k i hk (by unfold mm at h4; omega) h3
  unfold mm; omega
theorem sy_row (ls : List Nat) (l k : Nat) (hl : l < 15) (h1 : mm ls l <= k) (h2 : k < mm ls (l + 1)) : ln ls (sy ls k) = l + 1 := by
 have hk : k < (ordl ls).length := Nat.lt_of_lt_of_le h2 (mm_le ls (l + 1) (by omega))
 have g1 := (mm_iff ls (l + 1) k (by omega) hk).1 h2
 have g2 := mt (mm_iff ls l k (by omega) hk).2 (by omega)
 omega
theorem pf_row (ls : List Nat) (l t : Nat) (hl : l < 15) (h : mm ls l + t <= mm ls (l + 1)) : pf ls (mm ls l + t) = pf ls (mm ls l) + t * 2 ^ (14 - l) := by
 induction t with
 | zero => simp
 | succ t ih =>
  have h1 := sy_row ls l (mm ls l + t) hl (by omega) (by omega)
  show pf ls (mm ls l + t) + 2 ^ (15 - ln ls (sy ls (mm ls l + t))) = _
  rw [ih (by omega),h1,show 15 - (l + 1) = 14 - l by omega,Nat.succ_mul]
  omega
theorem pf_lt (ls : List Nat) (j k : Nat) (h : j < k) : pf ls j < pf ls k := by
 refine Nat.lt_of_lt_of_le ?_ (pf_mono ls (j + 1) k h)
 show _ < pf ls j + _
 exact Nat.lt_add_of_pos_right (Nat.two_pow_pos _)
def vb (l : List Bool) (p : Nat) : Nat -> Nat
 | 0 => 0
 | n + 1 => 2 * vb l p n + (l[p + n]?.getD false).toNat
theorem vb_lt (l : List Bool) (p n : Nat) : vb l p n < 2 ^ n := by
 induction n with
 | zero => simp [vb]
 | succ n ih =>
  have : (l[p + n]?.getD false).toNat < 2 := Bool.toNat_lt _
  simp only [vb,Nat.pow_succ]
  omega
def Hit (ls : List Nat) (l : List Bool) (p n k : Nat) : Prop := k < (ordl ls).length /\ ln ls (sy ls k) = n /\ cd ls k = vb l p n
def Beg (ls : List Nat) (l : List Bool) (p n k : Nat) : Prop := k < (ordl ls).length /\ n <= ln ls (sy ls k) /\ cd ls k / 2 ^ (ln ls (sy ls k) - n) = vb l p n
inductive Rd (ls : List Nat) (l : List Bool) (p : Nat) : Nat -> Nat × Nat × Int -> Prop
 | short (j : Nat) : j < 15 -> p + j = l.length -> Rd ls l p j (0,0,4)
 | hit (j k : Nat) : j < 15 -> p + j < l.length -> Hit ls l p (j + 1) k -> Rd ls l p j (sy ls k,p + j + 1,0)
 | miss (j : Nat) : j < 15 -> p + j < l.length -> (∀ k,¬ Hit ls l p (j + 1) k) -> (∀ k,¬ Beg ls l p (j + 1) k) -> Rd ls l p j (0,0,13)
 | next (j k : Nat) (r : Nat × Nat × Int) : j < 15 -> p + j < l.length -> (∀ k,¬ Hit ls l p (j + 1) k) -> Beg ls l p (j + 1) k -> Rd ls l p (j + 1) r -> Rd ls l p j r
 | last : Rd ls l p 15 (0,0,13)
theorem hit_one {ls : List Nat} {l : List Bool} {p n k k' : Nat} (h : Hit ls l p n k) (h' : Hit ls l p n k') : k = k' := by
 obtain ⟨h1,h2,h3⟩ := h
 obtain ⟨g1,g2,g3⟩ := h'
 have e1 := cd_pf ls k h1
 have e2 := cd_pf ls k' g1
 rw [h2,h3] at e1
 rw [g2,g3] at e2
 rcases Nat.lt_trichotomy k k' with h | h | h
 ·have := pf_lt ls k k' h; omega
 ·exact h
 ·have := pf_lt ls k' k h; omega
theorem rd_one {ls : List Nat} {l : List Bool} {p j : Nat} {r r' : Nat × Nat × Int} (h : Rd ls l p j r) (h' : Rd ls l p j r') : r = r' := by
 induction h with
 | short j h1 h2 =>
  cases h' with
  | short _ g1 g2 => rfl
  | hit _ k' g1 g2 g3 => omega
  | miss _ g1 g2 g3 g4 => omega
  | next _ k' _ g1 g2 g3 g4 g5 => omega
  | last => omega
 | hit j k h1 h2 h3 =>
  cases h' with
  | short _ g1 g2 => omega
  | hit _ k' g1 g2 g3 => rw [hit_one h3 g3]
  | miss _ g1 g2 g3 g4 => exact absurd h3 (g3 k)
  | next _ k' _ g1 g2 g3 g4 g5 => exact absurd h3 (g3 k)
  | last => omega
 | miss j h1 h2 h3 h4 =>
  cases h' with
  | short _ g1 g2 => omega
  | hit _ k' g1 g2 g3 => exact absurd g3 (h3 k')
  | miss _ g1 g2 g3 g4 => rfl
  | next _ k' _ g1 g2 g3 g4 g5 => exact absurd g4 (h4 k')
  | last => omega
 | next j k r h1 h2 h3 h4 h5 ih =>
  cases h' with
  | short _ g1 g2 => omega
  | hit _ k' g1 g2 g3 => exact absurd g3 (h3 k')
  | miss _ g1 g2 g3 g4 => exact absurd h4 (g4 k)
  | next _ k' _ g1 g2 g3 g4 g5 => exact ih g5
  | last => omega
 | last =>
  cases h' with
  | short _ g1 g2 => omega
  | hit _ k' g1 g2 g3 => omega
  | miss _ g1 g2 g3 g4 => omega
  | next _ k' _ g1 g2 g3 g4 g5 => omega
  | last => rfl
def Cnt (ls : List Nat) (l : List Bool) (p j c : Nat) : Prop := c * 2 ^ (15 - j) + pf ls (mm ls j) = vb l p j * 2 ^ (15 - j)
theorem Cnt.start (ls : List Nat) (l : List Bool) (p : Nat) : Cnt ls l p 0 0 := by simp [Cnt,mm_zero,pf,vb]
theorem Cnt.hit {ls : List Nat} {l : List Bool} {p j c : Nat} (h : c * 2 ^ (14 - j) + pf ls (mm ls j) = vb l p (j + 1) * 2 ^ (14 - j)) (hj : j < 15) (hc : mm ls j + c < mm ls (j + 1)) : Hit ls l p (j + 1) (mm ls j + c) := by
 have hk : mm ls j + c < (ordl ls).length := Nat.lt_of_lt_of_le hc (mm_le ls (j + 1) (by omega))
 have h1 := sy_row ls j (mm ls j + c) hj (by omega) hc
 have h2 := cd_pf ls (mm ls j + c) hk
 rw [h1,pf_row ls j c hj (by omega),show 15 - (j + 1) = 14 - j by omega] at h2
 refine ⟨hk,h1,Nat.eq_of_mul_eq_mul_right (Nat.two_pow_pos (14 - j)) ?_⟩
 omega
theorem Cnt.next {ls : List Nat} {l : List Bool} {p j c : Nat} (h : c * 2 ^ (14 - j) + pf ls (mm ls j) = vb l p (j + 1) * 2 ^ (14 - j)) (hj : j < 15) (n : Nat) (hn : mm ls (j + 1) = mm ls j + n) (hc : n <= c) : Cnt ls l p (j + 1) (c - n) := by
 unfold Cnt
 have h1 := pf_row ls j n hj (by omega)
 rw [<- hn] at h1
 rw [h1,show 15 - (j + 1) = 14 - j by omega,<- h,Nat.sub_mul]
 have : n * 2 ^ (14 - j) <= c * 2 ^ (14 - j) := Nat.mul_le_mul_right _ hc
 omega
end Hf
end
section
open Go.RowKit
structure Wd (B : Nat) (W : World) where
 w : World
 h : Below B W w
instance (B : Nat) (W : World) : Nonempty (Wd B W) := ⟨⟨W,Below.refl _ _⟩⟩
theorem region_made {P : Program} {id : Nat} {Q : Exit -> Act -> World -> Prop} {a : Act} {w : World} {l : List Oper} (B : Nat) (W : World) (hm : P.follows .mixedOrders = true) (hB : Region.lexB .any l.toArray = true)
  (hC : Below B W w) (h : wpQuiet P l.toArray (fun w' => ∃ x : Wd B W,w' = x.w) (fun a' => ∀ x : Wd B W,Q .normal a' x.w) l a) : (Code.region id l.toArray true).wp P Q a w := by
 refine wp_region_quiet (C := fun w' => ∃ x : Wd B W,w' = x.w) hm hB ⟨⟨_,hC.drew⟩,rfl⟩ ?_
 have : (fun a' => ∀ w',(∃ x : Wd B W,w' = x.w) -> Q .normal a' w') = fun a' => ∀ x : Wd B W,Q .normal a' x.w := by
  funext a'
  exact propext ⟨fun h x => h _ ⟨x,rfl⟩,fun h w' ⟨x,e⟩ => e ▸ h x⟩
 rw [this]
 simpa using h
theorem made_call {P : Program} {f : FuncId} {args : Array Value} {B : Nat} {W : World} {v : Value} (x : Wd B W) (hB : B <= W.heap.size)
  (h : Calls P f args x.w fun e w' => e = .returned v /\ Below x.w.heap.size x.w w') : Calls P f args x.w fun e w'' => e = .returned v /\ ∃ y : Wd B W,w'' = y.w :=
 h.mono fun _ w' ⟨he,hb⟩ => ⟨he,⟨w',x.h.trans (hb.mono (by have := x.h.size; omega))⟩,rfl⟩
theorem Wd.cell {B : Nat} {W : World} (x : Wd B W) {b o : Nat} (hb : b < B) : x.w.cell? ⟨b,o,none⟩ = W.cell? ⟨b,o,none⟩ := x.h.cell (p := ⟨b,o,none⟩) hb
end
section
open Go.RowKit
def vn (xs : List Nat) : List Value := xs.map fun (x : Nat) => Value.int .i64 (x : Int)
theorem vn_length (xs : List Nat) : (vn xs).length = xs.length := by simp [vn]
theorem vn_append (xs ys : List Nat) : vn (xs ++ ys) = vn xs ++ vn ys := by simp [vn]
theorem vn_get (xs : List Nat) (i : Nat) : (vn xs)[i]? = (xs[i]?).map fun (x : Nat) => Value.int .i64 (x : Int) := by simp [vn]
theorem vn_one (xs : List Nat) : ∀ v ∈ vn xs,v.oneCell' = true := by
 intro v hv
 simp only [vn,List.mem_map] at hv
 obtain ⟨x,_,rfl⟩ := hv
 rfl
def nums (xs : List Nat) : Obj := .cells (vn xs).toArray 3 (0,0)
theorem nums_cell {w : World} {g : Nat} {xs : List Nat} (h : Has w g (nums xs)) (i : Nat) (hi : i < xs.length) : w.cell? ⟨g,i,none⟩ = some (.int .i64 ((xs[i]?.getD 0 : Nat) : Int)) := by
 have h' : Has w g (.cells (vn xs).toArray 3 (0,0)) := h
 rw [h'.cell,List.getElem?_toArray,vn_get,List.getElem?_eq_getElem hi]
 rfl
theorem wpList_append_is {P : Program} {w : World} {ops : Array Oper} {rest : List Oper} {o : Oper} {a : Act} {Q : Exit -> Act -> World -> Prop} (hgd : o.guard = none) (s x : Operand) (t : TypeId)
  (hop : o.op = Op.call { callee := Callee.builtin Builtin.append,args := #[s,x],argTypes := #[t,t] }) (S X v : Value) (w' : World) (hs : a.eval s = S) (hx : a.eval x = X)
  (hrun : (Builtin.append_ #[t,t] o.type #[S,X]).run P w = .ok v w') (h : wpList P ops Q rest (a.put o.dst v) w') : wpList P ops Q (o :: rest) a w :=
 wpList_plain hgd fun K hK => by
  unfold Oper.wp
  simp [execOp,hop,resolve,invoke,builtin,hs,hx,hrun,Result.andThen]
  exact hK _ _ h
theorem own_keep {w w' : World} {base : Nat} {e : TypeId} {size : Nat} {v : Value} {n : Nat} {xs : List Value} (h : w.ownsRow base e size v n xs) (hb : Below w.heap.size w w') : w'.ownsRow base e size v n xs := by
 obtain ⟨h1,h2⟩ := h
 refine ⟨h1,?_⟩
 rcases h2 with h | ⟨g,c,cur,h,hbg,hg,r⟩
 ·exact Or.inl h
 ·exact Or.inr ⟨g,c,cur,h,hbg,(hb.block g (lt_of_block hg)).trans hg,r⟩
theorem own_only {w w' : World} {base R : Nat} {e : TypeId} {size : Nat} {v : Value} {n : Nat} {xs : List Value} (h : w.ownsRow base e size v n xs) (ho : Only R w w') (hR : R < base) : w'.ownsRow base e size v n xs := by
 obtain ⟨h1,h2⟩ := h
 refine ⟨h1,?_⟩
 rcases h2 with h | ⟨g,c,cur,h,hbg,hg,r⟩
 ·exact Or.inl h
 ·exact Or.inr ⟨g,c,cur,h,hbg,(ho.block g (lt_of_block hg) (by omega)).trans hg,r⟩
theorem own_sl {w : World} {base : Nat} {e : TypeId} {size : Nat} {v : Value} {n : Nat} {xs : List Value} (h : w.ownsRow base e size v n xs) : ∃ a cap,v = .slice a n cap := by
 rcases h.2 with ⟨rfl,rfl⟩ | ⟨g,cap,cur,rfl,_⟩
 ·exact ⟨_,_,rfl⟩
 ·exact ⟨_,_,rfl⟩
def Own (base : Nat) (w : World) (s : Value) (xs : List Nat) : Prop := w.ownsRow base 3 1 s xs.length (vn xs)
theorem Own.nil (base : Nat) (w : World) : Own base w (.slice none 0 0) [] := ⟨rfl,Or.inl ⟨rfl,rfl⟩⟩
theorem Own.shape {base : Nat} {w : World} {s : Value} {xs : List Nat} (h : Own base w s xs) : ∃ a cap,s = .slice a xs.length cap := own_sl h
theorem Own.keep {base : Nat} {w w' : World} {s : Value} {xs : List Nat} (h : Own base w s xs) (hb : Below w.heap.size w w') : Own base w' s xs := own_keep h hb
theorem Own.only {base R : Nat} {w w' : World} {s : Value} {xs : List Nat} (h : Own base w s xs) (ho : Only R w w') (hR : R < base) : Own base w' s xs := own_only h ho hR
theorem Own.cells {base : Nat} {w : World} {a : Option Addr} {len cap : Nat} {xs : List Nat} (h : Own base w (.slice a len cap) xs) (hl : 0 < xs.length) :
  ∃ g,a = some ⟨g,0,none⟩ /\ g < w.heap.size /\ base <= g /\ ∀ i,i < xs.length -> w.cell? ⟨g,i,none⟩ = some (.int .i64 ((xs[i]?.getD 0 : Nat) : Int)) := by
 have h0 := h
 rcases h.2 with ⟨h1,h2⟩ | ⟨g,c,cur,h1,hbg,hg,r⟩
 ·omega
 ·cases h1
  refine ⟨g,rfl,lt_of_block hg,hbg,fun i hi => ?_⟩
  have := World.ownsRow.cellAt (h := h0) i (by omega)
  rw [this,vn_get,List.getElem?_eq_getElem hi]
  rfl
theorem Own.cap {base : Nat} {w : World} {a : Option Addr} {len cap : Nat} {xs : List Nat} (h : Own base w (.slice a len cap) xs) : len = xs.length /\ len <= cap := by
 rcases h.2 with ⟨h1,h2⟩ | ⟨g,c,cur,h1,hbg,hg,r⟩
 ·injection h1 with e1 e2 e3
  omega
 ·injection h1 with e1 e2 e3
  have := r.1
  refine ⟨e2,?_⟩
  rw [e2,e3]; omega
theorem Own.weaken {base base' : Nat} {w : World} {v : Value} {xs : List Nat} (h : Own base w v xs) (hb : base' <= base) : Own base' w v xs := by
 refine ⟨h.1,?_⟩
 rcases h.2 with h2 | ⟨g,c,cur,h1,hbg,hg,r⟩
 ·exact Or.inl h2
 ·exact Or.inr ⟨g,c,cur,h1,by omega,hg,r⟩
theorem Own.block {base : Nat} {w : World} {v : Value} {xs : List Nat} (h : Own base w v xs) : ∀ k,v.ownBlock = some k -> base <= k := by
 intro k e
 rcases h.2 with ⟨h1,h2⟩ | ⟨g,c,cur,h1,hbg,hg,r⟩
 ·rw [h1] at e; simp [Value.ownBlock] at e
 ·rw [h1] at e
  simp only [Value.ownBlock,Option.some.injEq] at e
  omega
theorem Own.zl {base : Nat} {w : World} {s : Value} {xs : List Nat} (h : Own base w s xs) (h2 : xs.length <= 17592186044416) : Zl w s (xs.map fun (x : Nat) => (x : Int)) := by
 obtain ⟨a,cap,rfl⟩ := h.shape
 by_cases h0 : xs = []
 ·subst h0
  rcases h.2 with ⟨h1,h3⟩ | ⟨g,c,cur,h1,hbg,hg,r⟩
  ·cases h1
   exact ⟨none,0,0,rfl,rfl,by omega,fun _ => ⟨rfl,rfl⟩,fun h => absurd h (by omega)⟩
  ·cases h1
   exact ⟨_,0,_,rfl,rfl,by omega,fun h => by simp at h,fun h => absurd h (by simp)⟩
 ·have hl : 0 < xs.length := List.length_pos_iff.2 h0
  obtain ⟨g,rfl,hg,hb,hc⟩ := h.cells hl
  refine ⟨_,xs.length,cap,rfl,by simp,h2,fun h => by simp at h,fun _ => ⟨g,0,rfl,hg,fun i hi => ?_⟩⟩
  rw [Nat.zero_add,hc i hi,List.getElem?_map,List.getElem?_eq_getElem hi]
  rfl
theorem nums_append {w : World} {base : Nat} {v : Value} {xs : List Nat} (hown : Own base w v xs) (ty : TypeId) (g m cap : Nat) (ys : List Nat) (hg : Has w g (nums ys)) (hm : m = ys.length) (hm0 : 0 < m) (h1 : xs.length + m <= 100000) (hb : base <= w.heap.size) :
  ∃ v' w',(Builtin.append_ #[57,57] ty #[v,.slice (some ⟨g,0,none⟩) m cap]).run Tryz.prog w = .ok v' w' /\ Own base w' v' (xs ++ ys) /\ w.grownBy w' v.ownBlock := by
 subst hm
 obtain ⟨i0,hi,hz0,hz1,hz2⟩ := info_parts Tryz.infoInt
 obtain ⟨v',w',h1,h2,h3,_⟩ := run_append_own (P := Tryz.prog) (w := w) base 57 ty 3 i0 (.int .i64 0) 1 8 Tryz.underlying57 hi hz0 hz1 hz2 rfl (by decide) v xs.length (vn xs) hown ⟨g,0,none⟩ ys.length cap (vn ys) (by rw [vn_length]; omega)
  (fun j u hj => by
   have e : (⟨g,0,none⟩ : Addr).add j = ⟨g,j,none⟩ := by cases j <;> simp [Addr.add]
   have hj2 := (List.getElem?_eq_some_iff.1 hj).1
   rw [vn_length] at hj2
   rw [e,nums_cell hg j hj2]
   rw [vn_get,List.getElem?_eq_getElem hj2] at hj
   rw [List.getElem?_eq_getElem hj2]
   simpa using hj)
  (vn_one _) (by unfold maxLen; omega) (by omega) hb
 refine ⟨v',w',h1,?_,h3⟩
 unfold Own
 rw [List.length_append,vn_append]
 exact h2
theorem vn_splice (xs : List Nat) (k : Nat) (ys : List Nat) : splice (vn xs) k (vn ys) = vn (splice xs k ys) := by simp [splice,vn]
theorem wpList_copy_nums {w : World} {ops : Array Oper} {rest : List Oper} {o : Oper} {a : Act} {Q : Exit -> Act -> World -> Prop} (hgd : o.guard = none) (d s : Operand)
  (ho : o.op = .call { callee := .builtin .copy,args := #[d,s],argTypes := #[57,57] }) (dLen dCap sLen sCap g off b so : Nat) (hd : a.eval d = .slice (some ⟨g,off,none⟩) dLen dCap) (hs : a.eval s = .slice (some ⟨b,so,none⟩) sLen sCap)
  (cur cs : List Nat) (hg : Has w g (nums cur)) (hn : cs.length = Nat.min sLen dLen) (hc : ∀ j,j < cs.length -> w.cell? ⟨b,so + j,none⟩ = some (.int .i64 ((cs[j]?.getD 0 : Nat) : Int))) (hfit : off + cs.length <= cur.length)
  (h : ∀ w',Has w' g (nums (splice cur off cs)) -> Only g w w' -> wpList Tryz.prog ops Q rest (a.put o.dst (goInt cs.length)) w') : wpList Tryz.prog ops Q (o :: rest) a w := by
 refine wpList_copy_only hgd d s 57 57 ho 3 Tryz.underlying57 (by kernel_rfl) (some ⟨g,off,none⟩) (some ⟨b,so,none⟩) dLen dCap sLen sCap hd hs g off (vn cur) 3 hg (vn cs) (by rw [vn_length]; exact hn) (fun _ => ⟨rfl,_,rfl,fun j v hj => ?_⟩)
  (by rw [vn_length,vn_length]; exact hfit) (vn_one _) ?_
 ·have hj2 := (List.getElem?_eq_some_iff.1 hj).1
  rw [vn_length] at hj2
  have e : (⟨b,so,none⟩ : Addr).add j = ⟨b,so + j,none⟩ := by cases j <;> simp [Addr.add]
  rw [e,hc j hj2]
  rw [vn_get,List.getElem?_eq_getElem hj2] at hj
  rw [List.getElem?_eq_getElem hj2]
  simpa using hj
 ·intro w' hg' ho'
  rw [vn_length]
  refine h w' ?_ ho'
  have h2 := hg'.out
  rw [vn_splice] at h2
  exact h2
theorem step_copy_nums {ops : Array Oper} {o : Oper} {a : Act} {w : World} {K : Act -> World -> Prop} {Q : Exit -> Act -> World -> Prop} {E : Prop} (hgd : o.guard = none) (d s : Operand)
  (ho : o.op = .call { callee := .builtin .copy,args := #[d,s],argTypes := #[57,57] }) (dLen dCap sLen sCap g off b so : Nat) (hd : a.eval d = .slice (some ⟨g,off,none⟩) dLen dCap) (hs : a.eval s = .slice (some ⟨b,so,none⟩) sLen sCap)
  (cur cs : List Nat) (B : Nat) (w0 : World) (hb : Below B w0 w) (hBg : B <= g) (hg : Has w g (nums cur)) (hn : cs.length = Nat.min sLen dLen) (hc : ∀ j,j < cs.length -> w.cell? ⟨b,so + j,none⟩ = some (.int .i64 ((cs[j]?.getD 0 : Nat) : Int))) (hfit : off + cs.length <= cur.length)
  (h : ∀ w',Has w' g (nums (splice cur off cs)) -> Below B w0 w' -> K (a.put o.dst (goInt cs.length)) w') :
  if Region.wanted o (yielded ops a.tmps) = true then Oper.wp Tryz.prog o a w K Q else E := by
 refine step_copy_splice hgd d s 57 57 ho 3 Tryz.underlying57 (by kernel_rfl) (some ⟨g,off,none⟩) (some ⟨b,so,none⟩) dLen dCap sLen sCap hd hs g off (vn cur) 3 hg (vn cs) (by rw [vn_length]; exact hn) (fun _ => ⟨rfl,_,rfl,fun j v hj => ?_⟩)
  (by rw [vn_length,vn_length]; exact hfit) (vn_one _) B w0 hb hBg ?_
 ·have hj2 := (List.getElem?_eq_some_iff.1 hj).1
  rw [vn_length] at hj2
  have e : (⟨b,so,none⟩ : Addr).add j = ⟨b,so + j,none⟩ := by cases j <;> simp [Addr.add]
  rw [e,hc j hj2]
  rw [vn_get,List.getElem?_eq_getElem hj2] at hj
  rw [List.getElem?_eq_getElem hj2]
  simpa using hj
 ·intro w' hg' ho'
  rw [vn_length]
  refine h w' ?_ ho'
  have h2 := hg'.out
  rw [vn_splice] at h2
  exact h2
end
section
open Go.RowKit
def boxed (w : World) (a b c d : Int) : World := w.alloc (.cells #[.int .i64 a,.int .i64 b,.int .i64 c,.int .i64 d] 150)
theorem boxed_below (w : World) (a b c d : Int) : Below w.heap.size w (boxed w a b c d) := below1 w _
theorem boxed_size (w : World) (a b c d : Int) : (boxed w a b c d).heap.size = w.heap.size + 1 := by simp [boxed]
theorem boxed_le (w : World) (a b c d : Int) : w.heap.size + 1 <= (boxed w a b c d).heap.size := Nat.le_of_eq (boxed_size w a b c d).symm
theorem boxed_cells (w : World) (a b c d : Int) (x : Wd (w.heap.size + 1) (boxed w a b c d)) :
  x.w.cell? ⟨w.heap.size,0,none⟩ = some (.int .i64 a) /\ x.w.cell? ⟨w.heap.size,1,none⟩ = some (.int .i64 b) /\ x.w.cell? ⟨w.heap.size,2,none⟩ = some (.int .i64 c) /\ x.w.cell? ⟨w.heap.size,3,none⟩ = some (.int .i64 d) := by
 have h := (Has.new w (.cells #[.int .i64 a,.int .i64 b,.int .i64 c,.int .i64 d] 150)).four
 refine ⟨?_,?_,?_,?_⟩
 ·rw [x.cell (by omega)]; exact h.1
 ·rw [x.cell (by omega)]; exact h.2.1
 ·rw [x.cell (by omega)]; exact h.2.2.1
 ·rw [x.cell (by omega)]; exact h.2.2.2
theorem dlone_is (sym : Int) (w : World) : Calls Tryz.prog 149 #[scl 0 1 2 15,.int .i64 sym] w (Gives (.bool false) w) := by
 have HL := fun w => lengths_is w
 have cc := boxed_cells w 0 1 2 15
 have c0 := fun x => (cc x).1
 have c1 := fun x => (cc x).2.1
 have c2 := fun x => (cc x).2.2.1
 have c3 := fun x => (cc x).2.2.2
 unfold scl at HL ⊢
 have H := LH HL
 clear HL cc
 go_enter Tryz.func149,Tryz.ntmps149
 go_wp2
 refine region_made (w.heap.size + 1) (boxed w 0 1 2 15) (by kernel_rfl) (by kernel_rfl) (Below.refl _ _) ?_
 repeat (go_big_quiet_step (exact made_call _ (boxed_le _ _ _ _ _) (H.out _)))
 refine wpQuiet_nil fun x => ?_
 have HX := LH ((boxed_below w 0 1 2 15).trans (x.h.mono (by omega)))
 go_wp2
 go_ret
 exact ⟨rfl,HX.out⟩
theorem llone_is (sym : Int) (w : World) : Calls Tryz.prog 149 #[scl 257 3 4 7,.int .i64 sym] w (Gives (.bool (sym == 285)) w) := by
 have HL := fun w => lengths_is w
 have HE := fun w => lend_is w
 have cc := boxed_cells w 257 3 4 7
 have c0 := fun x => (cc x).1
 have c1 := fun x => (cc x).2.1
 have c2 := fun x => (cc x).2.2.1
 have c3 := fun x => (cc x).2.2.2
 unfold scl at HL HE ⊢
 have H := LH HL
 have H2 := LH HE
 clear HL HE cc
 obtain ⟨z,hz⟩ : ∃ z,z = (sym == 285) := ⟨_,rfl⟩
 have hz2 := hz.symm
 rw [<- hz]
 clear hz
 go_enter Tryz.func149,Tryz.ntmps149
 go_wp2
 refine region_made (w.heap.size + 1) (boxed w 257 3 4 7) (by kernel_rfl) (by kernel_rfl) (Below.refl _ _) ?_
 repeat (go_big_quiet_step (first | exact made_call _ (boxed_le _ _ _ _ _) (H.out _) | exact made_call _ (boxed_le _ _ _ _ _) (H2.out _)))
 refine wpQuiet_nil fun x => ?_
 have HX := LH ((boxed_below w 257 3 4 7).trans (x.h.mono (by omega)))
 go_wp2
 go_ret
 exact ⟨rfl,HX.out⟩
end
end Go.Proofs.YtmgpcbjciioiaaaGreatDoor
