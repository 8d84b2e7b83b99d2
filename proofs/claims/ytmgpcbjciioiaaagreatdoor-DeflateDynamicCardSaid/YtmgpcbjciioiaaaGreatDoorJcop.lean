import Derived.Test.YtmgpcbjciioiaaaGreatDoorJfix
import Derived.Test.YtmgpcbjciioiaaaGreatDoorJget
import Derived.Test.YtmgpcbjciioiaaaGreatDoorImost
import Derived.Test.YtmgpcbjciioiaaaGreatDoorSrall
import Derived.WalkMore
namespace Go.Proofs.YtmgpcbjciioiaaaGreatDoor
set_option maxRecDepth 100000
set_option maxHeartbeats 8000000
section
open Go.RowKit Go.Maps
def rtk (bs : List Nat) (at' : Nat) (r : Nat × Nat) : If.Tk := if r.1 = 0 then ⟨0,0,Mt.by' bs at'⟩ else ⟨r.1,r.2,0⟩
theorem rtk_len (bs : List Nat) (at' : Nat) (r : Nat × Nat) : (rtk bs at' r).len = r.1 := by
 unfold rtk
 split
 ·rename_i h; exact h.symm
 ·rfl
theorem tok_short {bs : List Nat} {at' : Nat} (h : Mt.wid bs at' < 3) (depth m : Nat) : Mt.tok bs depth at' m = rtk bs at' (0,0) := by unfold Mt.tok rtk; rw [if_pos h,if_pos rfl]
theorem tok_long {bs : List Nat} {at' : Nat} (h : ¬ Mt.wid bs at' < 3) (depth m : Nat) : Mt.tok bs depth at' m = rtk bs at' (Mt.lg bs at' depth (Mt.lst bs at' m) (0,0)) := by unfold Mt.tok rtk; rw [if_neg h]
theorem longest_short (R b off cap n q d : Nat) (bs : List Nat) (w : World) (hbt : Bt w b off bs) (hn : n = bs.length) (h9 : n <= 65536) (hcap : n <= cap) (hq : q < n) (hw : Mt.wid bs q < 3) (m : Nat) :
  Calls Tryz.prog 85 #[.pointer (some ⟨R,0,none⟩),.slice (some ⟨b,off,none⟩) n cap,.int .i64 (q : Int),.int .i64 (d : Int)] w fun e w' => e = .returned (tkv (Mt.tok bs d q m)) /\ Below w.heap.size w w' := by
 rw [tok_short hw]
 unfold rtk tkv
 rw [if_pos rfl]
 obtain ⟨W,hW⟩ : ∃ W,W = Mt.wid bs q := ⟨_,rfl⟩
 rw [<- hW] at hw
 unfold Mt.wid at hW
 rw [<- hn] at hW
 have e0 : min (q + 258) n = q + W := by omega
 have w1 : IntKind.i64.wrap ((q : Int) + 258) = ((q + 258 : Nat) : Int) := by rw [IntWalk.i64_in _ (by omega)]; omega
 have e1 : min ((q : Int) + 258) (n : Int) = ((q + W : Nat) : Int) := by omega
 have e3 : q + W - q = W := by omega
 have b0 : (q : Int) < (n : Int) := by omega
 have b1 : (q : Int) <= ((q + W : Nat) : Int) := by omega
 have b2 : ((q + W : Nat) : Int) <= (cap : Int) := by omega
 have b3 : (W : Int) < 3 := by omega
 have z1 := below1 w (.cells #[.int .i64 0,.int .i64 0,.int .u8 0] 48)
 have c1 := (hbt.later z1).2 q (by omega)
 clear hW hbt hn h9 hcap hq hw e0
 go_enter Tryz.func85,Tryz.ntmps85
 go_wp2_with fail
 go_step3
 go_wp2_with fail
 rw [Exit.noGoto_ret]
 obtain ⟨u0,u1,u2⟩ := cells3 (Has.alloc (Has.new w (.cells #[.int .i64 0,.int .i64 0,.int .u8 ((Mt.by' bs q : Nat) : Int)] 48)) (.cells #[.int .i64 0,.int .i64 0,.int .u8 ((Mt.by' bs q : Nat) : Int)] 48))
 refine bodyPost_ret (v := .agg #[.int .i64 ((0 : Nat) : Int),.int .i64 ((0 : Nat) : Int),.int .u8 ((Mt.by' bs q : Nat) : Int)]) ?_ rfl ⟨rfl,(below1 w _).alloc (by simp) _⟩
 simp [results,Tryz.results85,go_sem,u0,u1,u2]
def ov (o : Option Nat) : Int := match o with
 | none => -1
 | some p => (p : Int)
theorem az1_ov (bs : List Nat) (x m : Nat) : az1 bs x m = ov (Mt.lst bs x m) := rfl
theorem set3 {w : World} {g : Nat} {a b c : Value} {t : TypeId} (h : Has w g (.cells #[a,b,c] t (0,0))) (x y z : Value) : Has (((w.setCell ⟨g,0,none⟩ x).setCell ⟨g,1,none⟩ y).setCell ⟨g,2,none⟩ z) g (.cells #[x,y,z] t (0,0)) := by
 have := ((h.setSelf (i := 0) x).setSelf (i := 1) y).setSelf (i := 2) z
 simpa using this
theorem below_set3 {B : Nat} {w wr : World} {g : Nat} (h : Below B w wr) (hg : B <= g) (x y z : Value) : Below B w (((wr.setCell ⟨g,0,none⟩ x).setCell ⟨g,1,none⟩ y).setCell ⟨g,2,none⟩ z) :=
 ((h.setCell (p := ⟨g,0,none⟩) hg x).setCell (p := ⟨g,1,none⟩) hg y).setCell (p := ⟨g,2,none⟩) hg z
theorem has_set3 {w : World} {g T : Nat} {o : Obj} (h : Has w T o) (hne : T ≠ g) (x y z : Value) : Has (((w.setCell ⟨g,0,none⟩ x).setCell ⟨g,1,none⟩ y).setCell ⟨g,2,none⟩ z) T o :=
 ((h.set (a := ⟨g,0,none⟩) hne x).set (a := ⟨g,1,none⟩) hne y).set (a := ⟨g,2,none⟩) hne z
def TB (w : World) (T : Nat) (t : If.Tk) : Prop := Has w T (.cells #[.int .i64 (t.len : Int),.int .i64 (t.far : Int),.int .u8 (t.lit : Int)] 48 (0,0))
theorem longest_long (base R B b off cap n q d m : Nat) (bs : List Nat) (w : World) (hP : Pla base w R B bs m) (h8 : ∀ x ∈ bs,x < 256) (hbt : Bt w b off bs) (hn : n = bs.length) (h9 : n <= 65536) (hcap : n <= cap) (hq : q < n) (hw : ¬ Mt.wid bs q < 3) (hm : m <= q) (hd : d <= 65536) :
  Calls Tryz.prog 85 #[.pointer (some ⟨R,0,none⟩),.slice (some ⟨b,off,none⟩) n cap,.int .i64 (q : Int),.int .i64 (d : Int)] w fun e w' => e = .returned (tkv (Mt.tok bs d q m)) /\ Below w.heap.size w w' := by
 rw [tok_long hw]
 obtain ⟨W,hW⟩ : ∃ W,W = Mt.wid bs q := ⟨_,rfl⟩
 rw [<- hW] at hw
 have HWW := LH hW
 have HN := LH hn
 unfold Mt.wid at hW
 rw [<- hn] at hW
 have hqw : q + W <= n := by omega
 obtain ⟨fin,hfin⟩ : ∃ fin,fin = Mt.lg bs q d (Mt.lst bs q m) (0,0) := ⟨_,rfl⟩
 rw [<- hfin]
 have HFIN := LH (fun _ : Unit => hfin)
 have e1 : min ((q : Int) + 258) (n : Int) = ((q + W : Nat) : Int) := by omega
 have e3 : q + W - q = W := by omega
 have w1 : IntKind.i64.wrap ((q : Int) + 258) = ((q + 258 : Nat) : Int) := by rw [IntWalk.i64_in _ (by omega)]; omega
 have b0 : (q : Int) < (n : Int) := by omega
 have b1 : (q : Int) <= ((q + W : Nat) : Int) := by omega
 have b2 : ((q + W : Nat) : Int) <= (cap : Int) := by omega
 have b3 : ¬ (W : Int) < 3 := by omega
 have z1 := below1 w (.cells #[.int .i64 0,.int .i64 0,.int .u8 0] 48)
 have c1 := (hbt.later z1).2 q (by omega)
 have hnew := Has.new (w.alloc (.cells #[.int .i64 0,.int .i64 0,.int .u8 0] 48)) (.cells #[.int .i64 0,.int .i64 0,.int .u8 ((Mt.by' bs q : Nat) : Int)] 48)
 have hb2 := (below1 w (.cells #[.int .i64 0,.int .i64 0,.int .u8 0] 48)).alloc (by simp) (.cells #[.int .i64 0,.int .i64 0,.int .u8 ((Mt.by' bs q : Nat) : Int)] 48)
 have hnew0 := (Has.new w (.cells #[.int .i64 0,.int .i64 0,.int .u8 0] 48)).alloc (.cells #[.int .i64 0,.int .i64 0,.int .u8 ((Mt.by' bs q : Nat) : Int)] 48)
 obtain ⟨W2,hW2⟩ : ∃ X,X = (w.alloc (.cells #[.int .i64 0,.int .i64 0,.int .u8 0] 48)).alloc (.cells #[.int .i64 0,.int .i64 0,.int .u8 ((Mt.by' bs q : Nat) : Int)] 48) := ⟨_,rfl⟩
 rw [<- hW2] at hnew hb2 hnew0
 rw [show (w.alloc (.cells #[.int .i64 0,.int .i64 0,.int .u8 0] 48)).heap.size = w.heap.size + 1 by simp] at hnew
 have HP := LH hP
 have HBT := LH hbt
 have H8 := LH h8
 have HB2 := LH hb2
 have HT := LH (show TB W2 (w.heap.size + 1) (rtk bs q (0,0)) from hnew)
 have HR0 := LH hnew0
 have HTA := LH (threeAt_ok b off cap n q bs W2 (hbt.later hb2) hn (by omega) (by omega))
 have V2 := LH hW2
 clear hP h8 hbt hn hcap hb2 hnew hnew0 hW2 hfin z1 hW
 go_enter Tryz.func85,Tryz.ntmps85
 go_wp2_with fail
 go_step3
 go_wp2_with fail
 rw [<- V2.out]
 refine HTA.out.mono ?_
 clear HTA V2
 rintro e w3 ⟨rfl,hb3⟩
 have HB3 := LH (HB2.out.trans (hb3.mono HB2.out.size))
 have HT3 := LH (show TB w3 (w.heap.size + 1) (rtk bs q (0,0)) from Has.later HT.out hb3)
 have HR3 := LH (HR0.out.later hb3)
 have HL := LH (latest_pla (HP.out.later HB3.out) H8.out q)
 clear hb3 HT HB2 HR0
 unfold k3 at HL ⊢
 go_wp2_with fail
 refine HL.out.mono ?_
 clear HL
 rintro e w4 ⟨rfl,hb4⟩
 have HB4 := LH (HB3.out.trans (hb4.mono HB3.out.size))
 have HT4 := LH (show TB w4 (w.heap.size + 1) (rtk bs q (0,0)) from Has.later HT3.out hb4)
 have HR4 := LH (HR3.out.later hb4)
 rw [az1_ov]
 have HO := LH (fun p (h : Mt.lst bs q m = some p) => (Mt.lst_some h).1)
 obtain ⟨o0,ho0⟩ : ∃ o,o = Mt.lst bs q m := ⟨_,rfl⟩
 rw [<- ho0] at HFIN HO
 rw [<- ho0]
 clear hb4 HT3 HB3 HR3 ho0 c1
 go_wp2_with fail
 go_step3
 go_wp2_with fail
 go_loopw [11,36] (fun s11 s36 wr => ∃ (i : Nat) (o : Option Nat) (r : Nat × Nat),s11 = .int .i64 (ov o) /\ s36 = .int .i64 (i : Int) /\ i <= d /\ Hid (Unit -> fin = Mt.lg bs q (d - i) o r) /\ Hid (∀ p,o = some p -> p < m) /\ Hid (TB wr (w.heap.size + 1) (rtk bs q r)) /\ Hid (Below w.heap.size w wr) /\ Hid (Has wr w.heap.size (.cells #[.int .i64 0,.int .i64 0,.int .u8 0] 48 (0,0)))) (fun _ s36 _ => d - (intOf s36).toNat)
 case atStart => exact ⟨0,o0,(0,0),rfl,rfl,Nat.zero_le _,HFIN.out,HO,HT4,HB4,HR4⟩
 case round =>
  obtain ⟨i,o,r,rfl,rfl,hi,KF,KO,KT,KB,KR⟩ := hrel
  clear HFIN HO HT4 HB4 HR4
  by_cases hlt : i < d
  ·cases o with
   | none =>
    rw [show ov none = -1 from rfl]
    have hKF := KF.out ()
    obtain ⟨j,hj⟩ : ∃ j,d - i = j + 1 := ⟨d - i - 1,by omega⟩
    rw [hj] at hKF
    simp only [Mt.lg] at hKF
    have HE := LH (fun _ : Unit => hKF)
    clear hKF hj KF KO
    obtain ⟨t0,t1,t2⟩ := cells3 KT.out
    obtain ⟨z0,z1,z2⟩ := cells3 KR.out
    have f0 := KR.out.free 0
    have f1 := KR.out.free 1
    have f2 := KR.out.free 2
    have g0 := Has.free KT.out 0
    have g1 := Has.free KT.out 1
    have g2 := Has.free KT.out 2
    obtain ⟨x0,hx0⟩ : ∃ x,x = (rtk bs q r).len := ⟨_,rfl⟩
    obtain ⟨x1,hx1⟩ : ∃ x,x = (rtk bs q r).far := ⟨_,rfl⟩
    obtain ⟨x2,hx2⟩ : ∃ x,x = (rtk bs q r).lit := ⟨_,rfl⟩
    rw [<- hx0] at t0
    rw [<- hx1] at t1
    rw [<- hx2] at t2
    have HX := LH (And.intro hx0 (And.intro hx1 hx2))
    clear hx0 hx1 hx2
    go_wp2_with fail
    rw [Exit.noGoto_ret]
    obtain ⟨y0,y1,y2⟩ := cells3 (set3 KR.out (.int .i64 (x0 : Int)) (.int .i64 (x1 : Int)) (.int .u8 (x2 : Int)))
    refine bodyPost_ret (v := .agg #[.int .i64 (x0 : Int),.int .i64 (x1 : Int),.int .u8 (x2 : Int)]) ?_ rfl ⟨?_,below_set3 KB.out (Nat.le_refl _) _ _ _⟩
    ·simp [results,Tryz.results85,go_sem,y0,y1,y2]
    ·rw [HE.out ()]; obtain ⟨rfl,rfl,rfl⟩ := HX.out; rfl
   | some p =>
    rw [show ov (some p) = (p : Int) from rfl]
    have hpm : p < m := KO.out p rfl
    obtain ⟨j,hj0⟩ : ∃ j,d - i = j + 1 := ⟨d - i - 1,by omega⟩
    by_cases hf : 32768 < q - p
    ·rw [hj0] at KF
     have HE : Hid (Unit -> fin = r) := fun _ => by rw [KF.out ()]; simp only [Mt.lg]; rw [if_pos hf]
     have e5 : IntKind.i64.wrap ((q : Int) - (p : Int)) = ((q - p : Nat) : Int) := by rw [IntWalk.i64_in _ (by omega)]; omega
     have e6 : (32768 : Int) < ((q - p : Nat) : Int) := by omega
     clear KF KO hf
     obtain ⟨t0,t1,t2⟩ := cells3 KT.out
     obtain ⟨z0,z1,z2⟩ := cells3 KR.out
     have f0 := KR.out.free 0
     have f1 := KR.out.free 1
     have f2 := KR.out.free 2
     have g0 := Has.free KT.out 0
     have g1 := Has.free KT.out 1
     have g2 := Has.free KT.out 2
     obtain ⟨x0,hx0⟩ : ∃ x,x = (rtk bs q r).len := ⟨_,rfl⟩
     obtain ⟨x1,hx1⟩ : ∃ x,x = (rtk bs q r).far := ⟨_,rfl⟩
     obtain ⟨x2,hx2⟩ : ∃ x,x = (rtk bs q r).lit := ⟨_,rfl⟩
     rw [<- hx0] at t0
     rw [<- hx1] at t1
     rw [<- hx2] at t2
     have HX := LH (And.intro hx0 (And.intro hx1 hx2))
     clear hx0 hx1 hx2
     go_wp2_with fail
     rw [Exit.noGoto_ret]
     obtain ⟨y0,y1,y2⟩ := cells3 (set3 KR.out (.int .i64 (x0 : Int)) (.int .i64 (x1 : Int)) (.int .u8 (x2 : Int)))
     refine bodyPost_ret (v := .agg #[.int .i64 (x0 : Int),.int .i64 (x1 : Int),.int .u8 (x2 : Int)]) ?_ rfl ⟨?_,below_set3 KB.out (Nat.le_refl _) _ _ _⟩
     ·simp [results,Tryz.results85,go_sem,y0,y1,y2]
     ·rw [HE.out ()]; obtain ⟨rfl,rfl,rfl⟩ := HX.out; rfl
    ·have e5 : IntKind.i64.wrap ((q : Int) - (p : Int)) = ((q - p : Nat) : Int) := by rw [IntWalk.i64_in _ (by omega)]; omega
     have e6 : ¬ (32768 : Int) < ((q - p : Nat) : Int) := by omega
     have e7 : (p : Int) <= (n : Int) := by omega
     have HA := LH (fun wx (hb : Below w.heap.size w wx) => alike_ok b (off + p) (cap - p) (n - p) (off + q) (cap - q) W p q bs wx (fun j hj => by rw [Nat.add_assoc]; exact (HBT.out.later hb).2 (p + j) (by have := HN.out; omega)) (fun j hj => by rw [Nat.add_assoc]; exact (HBT.out.later hb).2 (q + j) (by have := HN.out; omega)) (by omega) (by omega))
     obtain ⟨k,hkk⟩ : ∃ k,k = Mt.alk bs p q W 0 := ⟨_,rfl⟩
     by_cases hk : k = W
     ·rw [hj0] at KF
      rw [hkk] at hk
      have HE : Hid (Unit -> fin = (W,q - p)) := fun _ => by rw [KF.out ()]; simp only [Mt.lg]; rw [if_neg hf,<- HWW.out,if_pos hk]
      rw [hk] at HA
      clear KF KO hk
      obtain ⟨t0,t1,t2⟩ := cells3 KT.out
      obtain ⟨z0,z1,z2⟩ := cells3 KR.out
      have f0 := KR.out.free 0
      have f1 := KR.out.free 1
      have f2 := KR.out.free 2
      have g0 := Has.free KT.out 0
      have g1 := Has.free KT.out 1
      have g2 := Has.free KT.out 2
      obtain ⟨x0,hx0⟩ : ∃ x,x = (rtk bs q r).len := ⟨_,rfl⟩
      obtain ⟨x1,hx1⟩ : ∃ x,x = (rtk bs q r).far := ⟨_,rfl⟩
      obtain ⟨x2,hx2⟩ : ∃ x,x = (rtk bs q r).lit := ⟨_,rfl⟩
      rw [<- hx0] at t0
      rw [<- hx1] at t1
      rw [<- hx2] at t2
      have HX := LH (And.intro hx0 (And.intro hx1 hx2))
      clear hx0 hx1 hx2
      go_wp2_with fail
      refine (HA.out _ KB.out).mono ?_
      clear HA
      rintro e w5 ⟨rfl,rfl⟩
      have KR2 := LH (has_set3 (g := w.heap.size + 1) KR.out (by omega) (.int .i64 (W : Int)) (.int .i64 ((q - p : Nat) : Int)) (.int .u8 0))
      have KB2 := LH (below_set3 (g := w.heap.size + 1) KB.out (by omega) (.int .i64 (W : Int)) (.int .i64 ((q - p : Nat) : Int)) (.int .u8 0))
      go_wp2_with fail
      rw [Exit.noGoto_ret]
      obtain ⟨y0,y1,y2⟩ := cells3 (set3 KR2.out (.int .i64 (W : Int)) (.int .i64 ((q - p : Nat) : Int)) (.int .u8 0))
      refine bodyPost_ret (v := .agg #[.int .i64 (W : Int),.int .i64 ((q - p : Nat) : Int),.int .u8 0]) ?_ rfl ⟨?_,below_set3 KB2.out (Nat.le_refl _) _ _ _⟩
      ·simp [results,Tryz.results85,go_sem,y0,y1,y2]
      ·rw [HE.out ()]; unfold rtk; rw [if_neg (show ¬ W = 0 by omega)]; rfl
     ·have hj : d - i = d - (i + 1) + 1 := by omega
      have HK := LH hkk
      rw [<- hkk] at HA
      clear hkk
      have hpl : p < m := KO.out p rfl
      obtain ⟨A,f,q1,q2,q3,q4,q5,q6⟩ := HP.out
      obtain ⟨ba,oa,ca,rfl,hoa,hca⟩ := own_cell q6 (by omega)
      subst hoa
      have a1 := hca p (by omega)
      rw [az_get bs m p hpl,az1_ov,Nat.zero_add] at a1
      obtain ⟨-,a0,-,-⟩ := q3.two
      have hba : ba < w.heap.size := World.block_lt_of_cell? _ _ a1
      have hRl := q3.lt
      have HAW := LH (And.intro a0 a1)
      replace a0 := (KB.out.cell (p := ⟨R,1,none⟩) hRl).trans a0
      replace a1 := (KB.out.cell (p := ⟨ba,p,none⟩) hba).trans a1
      obtain ⟨op,hop⟩ : ∃ op,op = Mt.lst bs p p := ⟨_,rfl⟩
      rw [<- hop] at a1 HAW
      have hai : (p : Int) < (m : Int) := by omega
      have KO2 : Hid (∀ x,op = some x -> x < m) := fun x hx => by have := (Mt.lst_some (hop ▸ hx)).1; omega
      clear q1 q2 q3 q4 q5 q6 hca hpl
      obtain ⟨t0,t1,t2⟩ := cells3 KT.out
      obtain ⟨z0,z1,z2⟩ := cells3 KR.out
      have f0 := KR.out.free 0
      have f1 := KR.out.free 1
      have f2 := KR.out.free 2
      have g0 := Has.free KT.out 0
      have g1 := Has.free KT.out 1
      have g2 := Has.free KT.out 2
      obtain ⟨x0,hx0⟩ : ∃ x,x = (rtk bs q r).len := ⟨_,rfl⟩
      obtain ⟨x1,hx1⟩ : ∃ x,x = (rtk bs q r).far := ⟨_,rfl⟩
      obtain ⟨x2,hx2⟩ : ∃ x,x = (rtk bs q r).lit := ⟨_,rfl⟩
      rw [<- hx0] at t0
      rw [<- hx1] at t1
      rw [<- hx2] at t2
      have HX := LH (And.intro hx0 (And.intro hx1 hx2))
      clear hx0 hx1 hx2
      have hk2 : ¬ (k : Int) = (W : Int) := by omega
      have HA2 := LH (HA.out _ KB.out)
      clear HA
      go_wp2_with fail
      refine HA2.out.mono ?_
      rintro e w5 ⟨rfl,rfl⟩
      by_cases hb : r.1 < k
      ·have hlt1 : (x0 : Int) < (k : Int) := by have := HX.out.1; rw [rtk_len] at this; omega
       have KF2 : Hid (Unit -> fin = Mt.lg bs q (d - (i + 1)) op (k,q - p)) := fun _ => by rw [KF.out (),hop,hj]; simp only [Mt.lg]; rw [if_neg hf,<- HWW.out,<- HK.out,if_neg hk,if_pos hb]
       have KT2 : Hid (TB (((wr.setCell ⟨w.heap.size + 1,0,none⟩ (.int .i64 (k : Int))).setCell ⟨w.heap.size + 1,1,none⟩ (.int .i64 ((q - p : Nat) : Int))).setCell ⟨w.heap.size + 1,2,none⟩ (.int .u8 0)) (w.heap.size + 1) (rtk bs q (k,q - p))) := by
        have h0 : rtk bs q (k,q - p) = ⟨k,q - p,0⟩ := by unfold rtk; rw [if_neg (show ¬ k = 0 by omega)]
        rw [h0]
        exact set3 KT.out _ _ _
       have KR2 := LH (has_set3 (g := w.heap.size + 1) KR.out (by omega) (.int .i64 (k : Int)) (.int .i64 ((q - p : Nat) : Int)) (.int .u8 0))
       have KB2 := LH (below_set3 (g := w.heap.size + 1) KB.out (by omega) (.int .i64 (k : Int)) (.int .i64 ((q - p : Nat) : Int)) (.int .u8 0))
       have a2 := (KB2.out.cell (p := ⟨R,1,none⟩) hRl).trans HAW.out.1
       have a3 := (KB2.out.cell (p := ⟨ba,p,none⟩) hba).trans HAW.out.2
       clear KF KO hj hop hb KT KB KR HA2 hba hRl
       go_wp2_with fail
       go_roundw
       case rel => exact ⟨i + 1,op,(k,q - p),rfl,by go_num,by omega,KF2,KO2,KT2,KB2,KR2⟩
       case measure => simp [intOf]; omega
      ·have hlt1 : ¬ (x0 : Int) < (k : Int) := by have := HX.out.1; rw [rtk_len] at this; omega
       have KF2 : Hid (Unit -> fin = Mt.lg bs q (d - (i + 1)) op r) := fun _ => by rw [KF.out (),hop,hj]; simp only [Mt.lg]; rw [if_neg hf,<- HWW.out,<- HK.out,if_neg hk,if_neg hb]
       clear KF KO hj hop hb HA2 hba hRl
       go_wp2_with fail
       go_roundw
       case rel => exact ⟨i + 1,op,r,rfl,by go_num,by omega,KF2,KO2,KT,KB,KR⟩
       case measure => simp [intOf]; omega
  ·obtain rfl : i = d := by omega
   have hKF := KF.out ()
   rw [Nat.sub_self] at hKF
   simp only [Mt.lg] at hKF
   have HE := LH (fun _ : Unit => hKF)
   clear hKF KF KO
   obtain ⟨t0,t1,t2⟩ := cells3 KT.out
   obtain ⟨z0,z1,z2⟩ := cells3 KR.out
   have f0 := KR.out.free 0
   have f1 := KR.out.free 1
   have f2 := KR.out.free 2
   have g0 := Has.free KT.out 0
   have g1 := Has.free KT.out 1
   have g2 := Has.free KT.out 2
   obtain ⟨x0,hx0⟩ : ∃ x,x = (rtk bs q r).len := ⟨_,rfl⟩
   obtain ⟨x1,hx1⟩ : ∃ x,x = (rtk bs q r).far := ⟨_,rfl⟩
   obtain ⟨x2,hx2⟩ : ∃ x,x = (rtk bs q r).lit := ⟨_,rfl⟩
   rw [<- hx0] at t0
   rw [<- hx1] at t1
   rw [<- hx2] at t2
   have HX := LH (And.intro hx0 (And.intro hx1 hx2))
   clear hx0 hx1 hx2
   go_wp2_with fail
   rw [Exit.noGoto_ret]
   obtain ⟨y0,y1,y2⟩ := cells3 (set3 KR.out (.int .i64 (x0 : Int)) (.int .i64 (x1 : Int)) (.int .u8 (x2 : Int)))
   refine bodyPost_ret (v := .agg #[.int .i64 (x0 : Int),.int .i64 (x1 : Int),.int .u8 (x2 : Int)]) ?_ rfl ⟨?_,below_set3 KB.out (Nat.le_refl _) _ _ _⟩
   ·simp [results,Tryz.results85,go_sem,y0,y1,y2]
   ·rw [HE.out ()]; obtain ⟨rfl,rfl,rfl⟩ := HX.out; rfl
end
section
open Go.RowKit
theorem lbit_in (y : Nat) (h : 256 < y) (h2 : y < 286) : Sy.lbitA (y : Int) = (Sy.at' Sy.lb (y - 257),0) := by
 unfold Sy.lbitA
 rw [if_pos (by omega)]
 congr 2
 omega
theorem lnum_in (y v : Nat) (h : 256 < y) (h2 : y < 286) (hv : v < 2 ^ Sy.at' Sy.lb (y - 257)) : Sy.lnumA (y : Int) (v : Int) = (Sy.at' Sy.lf (y - 257) + v,0) := by
 have e4 : ((y : Int) - 257).toNat = (y - 257) := by omega
 unfold Sy.lnumA
 rw [if_pos (by omega),e4,if_pos ⟨by omega,by norm_cast⟩,Int.toNat_natCast]
theorem dbit_in (y : Nat) (h2 : y < 30) : Sy.dbitA (y : Int) = (Sy.at' Sy.db y,0) := by
 unfold Sy.dbitA
 rw [if_pos (by omega),Int.toNat_natCast]
theorem dnum_in (y v : Nat) (h2 : y < 30) (hv : v < 2 ^ Sy.at' Sy.db y) : Sy.dnumA (y : Int) (v : Int) = (Sy.at' Sy.df y + v,0) := by
 unfold Sy.dnumA
 rw [if_pos (by omega),Int.toNat_natCast,if_pos ⟨by omega,by norm_cast⟩,Int.toNat_natCast]
theorem cp_more (far n : Nat) (out : List Nat) : If.cp far (n + 1) out = If.cp far n (out ++ [out[out.length - far]?.getD 0]) := rfl
theorem sl_byte1 {w : World} {g x : Nat} (h : Has w g (.cells #[.int .u8 (x : Int)] 5 (0,0))) (hx : x < 256) : Sl w (.slice (some ⟨g,0,none⟩) 1 1) [x] :=
 ⟨_,1,1,rfl,rfl,by omega,fun h => by simp at h,fun z hz => by simp at hz; omega,fun _ => ⟨g,0,rfl,h.lt,fun i hi => by
  obtain rfl : i = 0 := by omega
  rw [h.cell]; rfl⟩⟩
theorem jcopied_any {K : Nat -> Prop} {R : Nat} {s : Value} {l : List Bool} {N most : Nat} {w : World} {p : Nat} {out : List Nat} (y : Nat) (hy : 256 < y) (dv : Value) (ls : List Nat) (hD : Zk K w dv ls) (hS : Ds K R s l N most w p out) (hl : Hid (N = l.length)) (hN : N <= 2251799813685248) (hm : most <= 65536) (res : List Nat × Nat × Int) (hres : Hid (Unit -> If.copy l ls most y p out = res)) :
  Calls Tryz.prog 124 #[.pointer (some ⟨R,0,none⟩),.int .i64 (y : Int),dv] w (Jo K w res.2.2 (.int .i64 0) (.int .i64 res.2.2) (fun w' => Ds K R s l N most w' res.2.1 res.1)) := by
 have hst := hres.out ()
 unfold If.copy at hst
 have HS := LH hS
 have HD := LH hD
 by_cases h1 : 286 <= y
 ·rw [if_pos h1] at hst
  subst hst
  have e2 : Sy.lbitA (y : Int) = (0,13) := by unfold Sy.lbitA; rw [if_neg (by omega)]
  have HB := LH (rlbit_go (y : Int) w)
  rw [e2] at HB
  clear hS hD hres e2 h1 hy
  go_enter Tryz.func124,Tryz.ntmps124
  go_wp2_with fail
  refine HB.out.mono ?_
  rintro e w1 ⟨rfl,hb1⟩
  have HB1 := LH hb1
  clear hb1
  go_wp2
  go_ret
  exact Jo.fault (by decide) (Fr.of_below HS.out.lt HB1.out)
 rw [if_neg h1] at hst
 have HB := LH (rlbit_go (y : Int) w)
 rw [lbit_in y hy (by omega)] at HB
 have HLN := LH (fun (v : Nat) (hv : v < 2 ^ Sy.at' Sy.lb (y - 257)) (W : World) => by have h := rlnum_go (y : Int) (v : Int) W (by have : 2 ^ Sy.at' Sy.lb (y - 257) <= 2 ^ 13 := Nat.pow_le_pow_right (by omega) ((by decide : ∀ i : Fin 29,Sy.at' Sy.lb i.1 <= 13) ⟨y - 257,by omega⟩); omega); rw [lnum_in y v hy (by omega) hv] at h; exact h)
 have hk9 : Sy.at' Sy.lb (y - 257) <= 13 := (by decide : ∀ i : Fin 29,Sy.at' Sy.lb i.1 <= 13) ⟨y - 257,by omega⟩
 have hlf := If.lf_ok ⟨y - 257,by omega⟩
 simp only at hlf
 generalize Sy.at' Sy.lb (y - 257) = k at hst HB HLN hk9 hlf
 generalize Sy.at' Sy.lf (y - 257) = f at hst HLN hlf
 have hv2 := Hd.num_lt l p k
 obtain ⟨v,hv⟩ : ∃ v,v = Hd.num l p k := ⟨_,rfl⟩
 have HG := LH (fun W (hb : Below w.heap.size w W) => jget_any k (HS.out.later hb) hl hN (by omega))
 rw [<- hv] at hst hv2 HG
 obtain ⟨n,hn⟩ : ∃ n,n = f + v := ⟨_,rfl⟩
 have HLV := LH (fun W => HLN.out v hv2 W)
 rw [<- hn] at hst HLV
 have hn9 : n <= 258 /\ 3 <= n := by omega
 have HST := LH (fun _ : Unit => hst)
 clear hst hS hD hres HLN hlf hv hn hv2 hy h1
 go_enter Tryz.func124,Tryz.ntmps124
 go_wp2_with fail
 refine HB.out.mono ?_
 clear HB
 rintro e w1 ⟨rfl,hb1⟩
 have HB1 := LH hb1
 clear hb1
 go_wp2_with fail
 refine (HG.out _ HB1.out).mono ?_
 clear HG
 intro e w2 ho
 have HF1 : Hid (Fr K w w1) := Fr.of_below HS.out.lt HB1.out
 unfold numE at ho
 by_cases hE1 : N < p + k
 ·rw [if_pos hE1] at ho
  obtain ⟨rfl,hf⟩ := ho.bad (by decide)
  have hst := HST.out ()
  rw [if_pos (by rw [<- hl.out]; exact hE1)] at hst
  subst hst
  have HF2 := LH (HF1.out.trans hf)
  clear ho hf HST
  go_wp2
  go_ret
  exact Jo.fault (by decide) HF2.out
 rw [if_neg hE1] at ho
 obtain ⟨rfl,hS2,hf⟩ := ho.ok
 have HF2 := LH (HF1.out.trans hf)
 have HS2 := LH hS2
 have hst := HST.out ()
 rw [if_neg (by rw [<- hl.out]; exact hE1)] at hst
 have HST2 := LH (fun _ : Unit => hst)
 clear ho hf hS2 hst HST HF1 HB1 hE1
 go_wp2_with fail
 refine (HLV.out _).mono ?_
 clear HLV
 rintro e w3 ⟨rfl,hb3⟩
 have HS3 := LH (HS2.out.later hb3)
 have HF3 := LH (HF2.out.trans (Fr.of_below HS2.out.lt hb3))
 clear hb3 HF2 HS2
 go_wp2_with fail
 refine (jnone_any ls dv _ (HD.out.fr HF3.out).zl).mono ?_
 rintro e w4 ⟨rfl,rfl⟩
 by_cases h0 : ∀ x ∈ ls,x = 0
 ·have d1 : decide (∀ x ∈ ls,x = 0) = true := decide_eq_true h0
  have hst := HST2.out ()
  rw [if_pos h0] at hst
  subst hst
  rw [d1]
  clear HST2 h0 d1
  go_wp2
  go_ret
  exact Jo.fault (by decide) HF3.out
 have d1 : decide (∀ x ∈ ls,x = 0) = false := decide_eq_false h0
 rw [d1]
 have hst := HST2.out ()
 rw [if_neg h0] at hst
 obtain ⟨rr,hrr⟩ : ∃ rr,Hd.rd ls l (p + k) = rr := ⟨_,rfl⟩
 rw [hrr] at hst
 obtain ⟨y2,q2,c2⟩ := rr
 simp only at hst
 have HY := LH (jsym_any dv ls (HD.out.fr HF3.out) (((HD.out).fit).resolve_left h0) HS3.out hl hN y2 q2 c2 hrr)
 have HST3 := LH (fun _ : Unit => hst)
 clear hst HST2 hrr d1 h0 HS3
 go_wp2_with fail
 refine HY.out.mono ?_
 clear HY
 intro e w5 ho
 by_cases hc : c2 ≠ 0
 ·obtain ⟨rfl,hf⟩ := ho.bad hc
  have hst := HST3.out ()
  rw [if_pos hc] at hst
  subst hst
  have e9 : (c2 != 0) = true := by rw [bne_iff_ne]; exact hc
  have HF4 := LH (HF3.out.trans hf)
  have HC := LH hc
  clear ho hf HST3 hc
  go_wp2
  go_ret
  exact Jo.fault HC.out HF4.out
 obtain rfl : c2 = 0 := by simpa using hc
 obtain ⟨rfl,hS5,hf⟩ := ho.ok
 have HF5 := LH (HF3.out.trans hf)
 have HS5 := LH hS5
 have hst := HST3.out ()
 rw [if_neg hc] at hst
 have HST4 := LH (fun _ : Unit => hst)
 clear ho hf hS5 hst HST3 HF3 hc
 by_cases h30 : 30 <= y2
 ·have hst := HST4.out ()
  rw [if_pos h30] at hst
  subst hst
  have e2 : Sy.dbitA (y2 : Int) = (0,13) := by unfold Sy.dbitA; rw [if_neg (by omega)]
  have HB := LH (rdbit_go (y2 : Int) w5)
  rw [e2] at HB
  clear HST4 e2 h30
  go_wp2_with fail
  refine HB.out.mono ?_
  rintro e w6 ⟨rfl,hb6⟩
  have HF6 := LH (HF5.out.trans (Fr.of_below HS5.out.lt hb6))
  clear hb6
  go_wp2
  go_ret
  exact Jo.fault (by decide) HF6.out
 have hst := HST4.out ()
 rw [if_neg h30] at hst
 have HB := LH (rdbit_go (y2 : Int) w5)
 rw [dbit_in y2 (by omega)] at HB
 have hk2 : Sy.at' Sy.db y2 <= 13 := (by decide : ∀ i : Fin 30,Sy.at' Sy.db i.1 <= 13) ⟨y2,by omega⟩
 have hdf := If.df_ok ⟨y2,by omega⟩
 simp only at hdf
 have HDN := LH (fun (v : Nat) (hv : v < 2 ^ Sy.at' Sy.db y2) (W : World) => by have h := rdnum_go (y2 : Int) (v : Int) W (by have : 2 ^ Sy.at' Sy.db y2 <= 2 ^ 13 := Nat.pow_le_pow_right (by omega) hk2; omega); rw [dnum_in y2 v (by omega) hv] at h; exact h)
 generalize Sy.at' Sy.db y2 = k2 at hst HB HDN hk2 hdf
 generalize Sy.at' Sy.df y2 = f2 at hst HDN hdf
 have hv2 := Hd.num_lt l q2 k2
 obtain ⟨v2,hv⟩ : ∃ v,v = Hd.num l q2 k2 := ⟨_,rfl⟩
 have HG := LH (fun W (hb : Below w5.heap.size w5 W) => jget_any k2 (HS5.out.later hb) hl hN (by omega))
 rw [<- hv] at hst hv2 HG
 obtain ⟨d,hd⟩ : ∃ d,d = f2 + v2 := ⟨_,rfl⟩
 have HDV := LH (fun W => HDN.out v2 hv2 W)
 rw [<- hd] at hst HDV
 have hd9 : d <= 32768 /\ 1 <= d := by omega
 have HST5 := LH (fun _ : Unit => hst)
 clear hst HST4 HDN hdf hv hd hv2 h30
 go_wp2_with fail
 refine HB.out.mono ?_
 clear HB
 rintro e w6 ⟨rfl,hb6⟩
 have HB6 := LH hb6
 have HF6 := LH (HF5.out.trans (Fr.of_below HS5.out.lt hb6))
 clear hb6 HF5
 go_wp2_with fail
 refine (HG.out _ HB6.out).mono ?_
 clear HG HB6
 intro e w7 ho
 unfold numE at ho
 by_cases hE2 : N < q2 + k2
 ·rw [if_pos hE2] at ho
  obtain ⟨rfl,hf⟩ := ho.bad (by decide)
  have hst := HST5.out ()
  rw [if_pos (by rw [<- hl.out]; exact hE2)] at hst
  subst hst
  have HF7 := LH (HF6.out.trans hf)
  clear ho hf HST5
  go_wp2
  go_ret
  exact Jo.fault (by decide) HF7.out
 rw [if_neg hE2] at ho
 obtain ⟨rfl,hS7,hf⟩ := ho.ok
 have HF7 := LH (HF6.out.trans hf)
 have HS7 := LH hS7
 have hst := HST5.out ()
 rw [if_neg (by rw [<- hl.out]; exact hE2)] at hst
 have HST6 := LH (fun _ : Unit => hst)
 clear ho hf hS7 hst HST5 HF6 hE2 HS5
 go_wp2_with fail
 refine (HDV.out _).mono ?_
 clear HDV
 rintro e w8 ⟨rfl,hb8⟩
 have HS8 := LH (HS7.out.later hb8)
 have HF8 := LH (HF7.out.trans (Fr.of_below HS7.out.lt hb8))
 clear hb8 HF7 HS7
 obtain ⟨ov,hx,hown,hnk⟩ := HS8.out.has
 obtain ⟨oa,oc,rfl⟩ := own_shape hown
 obtain ⟨_,_,c2,c3,c4⟩ := jdi_cells hx
 obtain ⟨o,ho⟩ : ∃ o,o = out.length := ⟨_,rfl⟩
 have hle := HS8.out.le
 rw [<- ho] at c3 hle
 have HO := LH ho
 clear hx hown hnk c2 ho
 by_cases hE3 : o < d
 ·have d1 : decide ((o : Int) < (d : Int)) = true := decide_eq_true (by omega)
  have d2 : decide (o < d) = true := decide_eq_true hE3
  have hst := HST6.out ()
  rw [if_pos (by rw [<- HO.out]; exact hE3)] at hst
  subst hst
  clear HST6
  go_wp2
  go_ret
  exact Jo.fault (by decide) HF8.out
 have d1 : decide ((o : Int) < (d : Int)) = false := decide_eq_false (by omega)
 have d2 : decide (o < d) = false := decide_eq_false hE3
 have hst := HST6.out ()
 rw [if_neg (by rw [<- HO.out]; exact hE3)] at hst
 have HST7 := LH (fun _ : Unit => hst)
 clear hst HST6
 have hsub : IntKind.i64.wrap ((most : Int) - (o : Int)) = ((most - o : Nat) : Int) := by rw [IntWalk.i64_in _ (by omega)]; omega
 by_cases hE4 : most < o + n
 ·have d3 : decide (((most - o : Nat) : Int) < (n : Int)) = true := by simp; omega
  have d4 : decide (most - o < n) = true := by simp; omega
  have hst := HST7.out ()
  rw [if_pos (by rw [<- HO.out]; exact hE4)] at hst
  subst hst
  clear HST7
  go_wp2
  go_quiet (fail)
  go_wp2
  go_ret
  exact Jo.fault (by decide) (HF8.out.trans (Fr.of_below HS8.out.lt (below_drewN (Below.refl _ _) _)))
 have d3 : decide (((most - o : Nat) : Int) < (n : Int)) = false := by simp; omega
 have d4 : decide (most - o < n) = false := by simp; omega
 have hst := HST7.out ()
 rw [if_neg (by rw [<- HO.out]; exact hE4)] at hst
 have HST8 := LH (fun _ : Unit => hst)
 clear hst HST7
 go_wp2
 go_quiet (fail)
 have HS9 := LH (HS8.out.later (below_drewN (Below.refl _ w8) nq))
 have HF9 := LH (HF8.out.trans (Fr.of_below HS8.out.lt (below_drewN (Below.refl _ w8) nq)))
 generalize w8.drewN nq = W at HS9 HF9 ⊢
 clear c3 c4 HS8 HF8 d1 d2 d3 d4 hsub
 have HD9 := LH hd9
 have HN9 := LH hn9
 have HE9 : Hid (o + n <= most /\ d <= o) := by show _ /\ _; omega
 clear hE3 hE4 hd9 hn9 hle
 go_wp2_with fail
 go_loopw [15] (fun s15 wr => ∃ (i : Nat) (ou : List Nat),s15 = .int .i64 (i : Int) /\ i <= n /\ Hid (Ds K R s l N most wr (q2 + k2) ou) /\ Hid (Fr K w wr) /\ Hid (ou.length = o + i) /\ Hid (Unit -> If.cp d (n - i) ou = If.cp d n out)) (fun s _ => n - (intOf s).toNat)
 case atStart => exact ⟨0,out,rfl,Nat.zero_le _,HS9.out,HF9.out,by show _ = _; rw [HO.out]; rfl,(fun _ => rfl : Unit -> _)⟩
 case round =>
  obtain ⟨i,ou,rfl,hi,KS,KF,KL,KC⟩ := hrel
  by_cases hlt : i < n
  ·have hn258 : n <= 258 := HN9.out.1
   obtain ⟨ov,hx,hown,hnk⟩ := KS.out.has
   have hL1 : 0 < ou.length := by have := KL.out; have := HD9.out; have := HE9.out; omega
   obtain ⟨g,gc,rfl⟩ : ∃ g c,ov = .slice (some ⟨g,0,none⟩) ou.length c := by
    rcases hown.2 with ⟨_,h0⟩ | ⟨g,cap,cur,rfl,_⟩
    ·omega
    ·exact ⟨g,cap,rfl⟩
   have hcell := hown.cells (g := g) rfl
   obtain ⟨m,hm2⟩ : ∃ m,m = ou.length - d := ⟨_,rfl⟩
   have hmL : m < ou.length := by have := HD9.out; omega
   obtain ⟨x,hxx⟩ : ∃ x,x = ou[m]?.getD 0 := ⟨_,rfl⟩
   have c5 : wr.cell? ⟨g,m,none⟩ = some (.int .u8 (x : Int)) := by
    have h := hcell m (.int .u8 (x : Int)) (by rw [vb_get,List.getElem?_eq_getElem hmL,hxx,List.getElem?_eq_getElem hmL]; rfl)
    by_cases hm0 : m = 0
    ·rw [hm0] at h ⊢; simpa [Addr.add] using h
    ·simpa [Addr.add,hm0] using h
   have hx8 : x < 256 := by
    rw [hxx,List.getElem?_eq_getElem hmL]
    exact KS.out.b8 _ (List.getElem_mem _)
   have hgl : g < wr.heap.size := (World.ownsRow.lt hown g (by simp [Value.ownBlock])).2
   obtain ⟨o1,ho1⟩ : ∃ o1,o1 = Obj.cells #[.int .u8 (x : Int)] 5 (0,0) := ⟨_,rfl⟩
   have hb1 := below1 wr (.cells #[.int .u8 (x : Int)] 5)
   have hSA := KS.out.later hb1.drew
   obtain ⟨_,_,_,c3,_⟩ := jdi_cells hx
   have hxA : Has (wr.alloc (.cells #[.int .u8 (x : Int)] 5)).drew R (jdi s N (q2 + k2) most (.slice (some ⟨g,0,none⟩) ou.length gc)) := hx.alloc _
   obtain ⟨_,_,_,e3,_⟩ := jdi_cells (hx.alloc (.cells #[.int .u8 (x : Int)] 5))
   have e5 : (wr.alloc (.cells #[.int .u8 (x : Int)] 5)).cell? ⟨g,m,none⟩ = some (.int .u8 (x : Int)) := (World.cell?_alloc_lt _ _ ⟨g,m,none⟩ hgl).trans c5
   have hownA : (wr.alloc (.cells #[.int .u8 (x : Int)] 5)).drew.ownsRow 0 5 1 (.slice (some ⟨g,0,none⟩) ou.length gc) ou.length (vb ou) := own_keep hown hb1.drew
   have hsl : Sl (wr.alloc (.cells #[.int .u8 (x : Int)] 5)).drew (.slice (some ⟨wr.heap.size,0,none⟩) 1 1) [x] := sl_byte1 (Has.new wr _) hx8
   have hle1 : ou.length + [x].length <= most := by have := KL.out; have := HE9.out; simp; omega
   obtain ⟨v9,w9,hrun,hown9,hg9,hb9⟩ := run_app_out 22 hownA (some ⟨wr.heap.size,0,none⟩) 1 1 hsl (by omega)
   obtain ⟨a9,n9,k9,rfl⟩ : ∃ a q k,v9 = .slice a q k := by obtain ⟨a,c,h⟩ := own_shape hown9; exact ⟨a,_,c,h⟩
   have HRUN := LH hrun
   have happ := Ds.app hSA [x] (by rw [List.length_append]; exact hle1) (fun z hz => by simp at hz; omega) _ hxA hownA hnk hown9 hg9 hb9
   have HAPP := LH happ.1
   have HFA := LH ((KF.out.trans (Fr.of_below KS.out.lt hb1.drew)).trans happ.2)
   have hx9 := (hg9.block R (by have := hx.lt; simp; omega) (fun e => ov_ne hx hown R e.symm rfl)).trans hxA
   obtain ⟨_,_,_,f3,_⟩ := jdi_cells hx9
   have y3 := jdi_free hx9 3
   have KL2 : Hid ((ou ++ [x]).length = o + (i + 1)) := by show _ = _; rw [List.length_append,KL.out]; rfl
   have KC2 : Hid (Unit -> If.cp d (n - (i + 1)) (ou ++ [x]) = If.cp d n out) := fun u => by
    have h := KC.out u
    obtain ⟨j,hj⟩ : ∃ j,n - i = j + 1 := ⟨n - i - 1,by omega⟩
    rw [hj,cp_more,<- hm2,<- hxx] at h
    rw [show n - (i + 1) = j by omega]
    exact h
   obtain ⟨L,hL⟩ : ∃ L,L = ou.length := ⟨_,rfl⟩
   have hLl : L <= 65536 := by rw [hL]; have := KS.out.le; omega
   have hsum : IntKind.i64.wrap ((L : Int) - (d : Int)) = (m : Int) := by rw [IntWalk.i64_in _ (by have := HD9.out; omega)]; have := HD9.out; have := KL.out; have := HE9.out; omega
   rw [<- hL] at c3 e3 hmL HRUN
   have i0 : (0 : Int) <= (m : Int) := by omega
   have i1 : (m : Int) < (L : Int) := by omega
   clear hx hown hnk hcell hxx hm2 hL1 ho1 o1 hb1 hSA hxA hownA hsl hle1 hrun hown9 hg9 hb9 happ hx9 hL KS KF KL KC hx8
   go_wp2_with fail
   go_region_law (first | (refine step_append_known rfl (.tmp 99) (.tmp 113) 22 rfl _ _ _ w9 (by first | rfl | simp [Act.eval,go_sem]) (by first | rfl | simp [Act.eval,go_sem]) HRUN.out ?_))
   all_goals
    clear c3 e3 f3 c5 e5 y3 HRUN
    go_wp2
    go_roundw
    case rel => exact ⟨i + 1,ou ++ [x],by go_num,by omega,HAPP.out,HFA.out,KL2.out,KC2.out⟩
    case measure => simp [intOf]; omega
  ·obtain rfl : i = n := by omega
   have hst := HST8.out ()
   have hc := KC.out ()
   rw [Nat.sub_self] at hc
   rw [<- hc] at hst
   simp only [If.cp] at hst
   have hS := KS.out
   have hF := KF.out
   subst hst
   have HS10 := LH hS
   have HF10 := LH hF
   clear KS KF KL KC HST8 hS hF hc
   go_wp2
   go_ret
   exact Jo.intro HF10.out HS10.out
end
end Go.Proofs.YtmgpcbjciioiaaaGreatDoor
