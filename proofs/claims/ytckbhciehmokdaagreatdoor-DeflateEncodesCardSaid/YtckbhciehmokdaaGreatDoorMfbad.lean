import Derived.Test.YtckbhciehmokdaaGreatDoorIas2
import Derived.Test.YtckbhciehmokdaaGreatDoorCarg
import Derived.Test.YtckbhciehmokdaaGreatDoorIcop
import Derived.Test.YtckbhciehmokdaaGreatDoorIfix
import Derived.Test.YtckbhciehmokdaaGreatDoorHrget
import Derived.Test.YtckbhciehmokdaaGreatDoorQtail
import Derived.Test.YtckbhciehmokdaaGreatDoorLstab
import Derived.Test.YtckbhciehmokdaaGreatDoorItake
import Derived.Test.YtckbhciehmokdaaGreatDoorJget
import Derived.WalkMore
import Derived.RangeFuncNested
import Derived.RangeFuncBound
import Derived.RangeFuncCalls
import Derived.RangeFuncLeaves
import Derived.RangeFuncBox
import Derived.Shelf.Abstract
import Derived.Shelf.RegionOpen
import Derived.WalkKit
import Derived.OwnWalkIn
import Derived.TacticsInMore
import Derived.LoopNIn
import Derived.LoopIn
import Derived.Deep.RegionLawGrows
namespace Go.Proofs.YtckbhciehmokdaaGreatDoor
set_option maxRecDepth 100000
set_option maxHeartbeats 8000000
open Go.RowKit Go.Maps
def rtk (bs : List Nat) (at' : Nat) (r : Nat × Nat) : If.Tk := if r.1 = 0 then ⟨0, 0, Mt.by' bs at'⟩ else ⟨r.1, r.2, 0⟩
theorem rtk_len (bs : List Nat) (at' : Nat) (r : Nat × Nat) : (rtk bs at' r).len = r.1 := by
 unfold rtk
 split
 ·rename_i h; exact h.symm
 ·rfl
theorem tok_short {bs : List Nat} {at' : Nat} (h : Mt.wid bs at' < 3) (depth m : Nat) : Mt.tok bs depth at' m = rtk bs at' (0, 0) := by unfold Mt.tok rtk; rw [if_pos h, if_pos rfl]
theorem tok_long {bs : List Nat} {at' : Nat} (h : ¬ Mt.wid bs at' < 3) (depth m : Nat) : Mt.tok bs depth at' m = rtk bs at' (Mt.lg bs at' depth (Mt.lst bs at' m) (0, 0)) := by unfold Mt.tok rtk; rw [if_neg h]
theorem longest_short (R b off cap n q d : Nat) (bs : List Nat) (w : World) (hbt : Bt w b off bs) (hn : n = bs.length) (h9 : n <= 65536) (hcap : n <= cap) (hq : q < n) (hw : Mt.wid bs q < 3) (m : Nat) :
  Calls Tryz.prog 85 #[.pointer (some ⟨R, 0, none⟩), .slice (some ⟨b, off, none⟩) n cap, .int .i64 (q : Int), .int .i64 (d : Int)] w fun e w' => e = .returned (tkv (Mt.tok bs d q m)) /\ Below w.heap.size w w' := by
 rw [tok_short hw]
 unfold rtk tkv
 rw [if_pos rfl]
 obtain ⟨W, hW⟩ : ∃ W, W = Mt.wid bs q := ⟨_, rfl⟩
 rw [<- hW] at hw
 unfold Mt.wid at hW
 rw [<- hn] at hW
 have e0 : min (q + 258) n = q + W := by omega
 have w1 : IntKind.i64.wrap ((q : Int) + 258) = ((q + 258 : Nat) : Int) := by rw [IntWalk.i64_in _ (by omega)]; omega
 have e1 : min ((q : Int) + 258) (n : Int) = ((q + W : Nat) : Int) := by omega
 have e3 : q + W - q = W := by omega
 have b0 : (q : Int) < (n : Int) := by omega
 have b1 : (q : Int) <= ((q + W : Nat) : Int) := by omega
 have b2 : ((q + W : Nat) : Int) <= (cap : Int) := by omega
 have b3 : (W : Int) < 3 := by omega
 have z1 := below1 w (.cells #[.int .i64 0, .int .i64 0, .int .u8 0] 48)
 have c1 := (hbt.later z1).2 q (by omega)
 clear hW hbt hn h9 hcap hq hw e0
 go_enter Tryz.func85, Tryz.ntmps85
 go_wp2_with fail
 go_step3
 go_wp2_with fail
 rw [Exit.noGoto_ret]
 obtain ⟨u0, u1, u2⟩ := cells3 (Has.alloc (Has.new w (.cells #[.int .i64 0, .int .i64 0, .int .u8 ((Mt.by' bs q : Nat) : Int)] 48)) (.cells #[.int .i64 0, .int .i64 0, .int .u8 ((Mt.by' bs q : Nat) : Int)] 48))
 refine bodyPost_ret (v := .agg #[.int .i64 ((0 : Nat) : Int), .int .i64 ((0 : Nat) : Int), .int .u8 ((Mt.by' bs q : Nat) : Int)]) ?_ rfl ⟨rfl, (below1 w _).alloc (by simp) _⟩
 simp [results, Tryz.results85, go_sem, u0, u1, u2]
def ov (o : Option Nat) : Int := match o with
 | none => -1
 | some p => (p : Int)
theorem az1_ov (bs : List Nat) (x m : Nat) : az1 bs x m = ov (Mt.lst bs x m) := rfl
theorem set3 {w : World} {g : Nat} {a b c : Value} {t : TypeId} (h : Has w g (.cells #[a, b, c] t (0, 0))) (x y z : Value) : Has (((w.setCell ⟨g, 0, none⟩ x).setCell ⟨g, 1, none⟩ y).setCell ⟨g, 2, none⟩ z) g (.cells #[x, y, z] t (0, 0)) := by
 have := ((h.setSelf (i := 0) x).setSelf (i := 1) y).setSelf (i := 2) z
 simpa using this
theorem below_set3 {B : Nat} {w wr : World} {g : Nat} (h : Below B w wr) (hg : B <= g) (x y z : Value) : Below B w (((wr.setCell ⟨g, 0, none⟩ x).setCell ⟨g, 1, none⟩ y).setCell ⟨g, 2, none⟩ z) :=
 ((h.setCell (p := ⟨g, 0, none⟩) hg x).setCell (p := ⟨g, 1, none⟩) hg y).setCell (p := ⟨g, 2, none⟩) hg z
theorem has_set3 {w : World} {g T : Nat} {o : Obj} (h : Has w T o) (hne : T ≠ g) (x y z : Value) : Has (((w.setCell ⟨g, 0, none⟩ x).setCell ⟨g, 1, none⟩ y).setCell ⟨g, 2, none⟩ z) T o :=
 ((h.set (a := ⟨g, 0, none⟩) hne x).set (a := ⟨g, 1, none⟩) hne y).set (a := ⟨g, 2, none⟩) hne z
def TB (w : World) (T : Nat) (t : If.Tk) : Prop := Has w T (.cells #[.int .i64 (t.len : Int), .int .i64 (t.far : Int), .int .u8 (t.lit : Int)] 48 (0, 0))
theorem longest_long (base R B b off cap n q d m : Nat) (bs : List Nat) (w : World) (hP : Pla base w R B bs m) (h8 : ∀ x ∈ bs, x < 256) (hbt : Bt w b off bs) (hn : n = bs.length) (h9 : n <= 65536) (hcap : n <= cap) (hq : q < n) (hw : ¬ Mt.wid bs q < 3) (hm : m <= q) (hd : d <= 65536) :
  Calls Tryz.prog 85 #[.pointer (some ⟨R, 0, none⟩), .slice (some ⟨b, off, none⟩) n cap, .int .i64 (q : Int), .int .i64 (d : Int)] w fun e w' => e = .returned (tkv (Mt.tok bs d q m)) /\ Below w.heap.size w w' := by
 rw [tok_long hw]
 obtain ⟨W, hW⟩ : ∃ W, W = Mt.wid bs q := ⟨_, rfl⟩
 rw [<- hW] at hw
 have HWW := LH hW
 have HN := LH hn
 unfold Mt.wid at hW
 rw [<- hn] at hW
 have hqw : q + W <= n := by omega
 obtain ⟨fin, hfin⟩ : ∃ fin, fin = Mt.lg bs q d (Mt.lst bs q m) (0, 0) := ⟨_, rfl⟩
 rw [<- hfin]
 have HFIN := LH (fun _ : Unit => hfin)
 have e1 : min ((q : Int) + 258) (n : Int) = ((q + W : Nat) : Int) := by omega
 have e3 : q + W - q = W := by omega
 have w1 : IntKind.i64.wrap ((q : Int) + 258) = ((q + 258 : Nat) : Int) := by rw [IntWalk.i64_in _ (by omega)]; omega
 have b0 : (q : Int) < (n : Int) := by omega
 have b1 : (q : Int) <= ((q + W : Nat) : Int) := by omega
 have b2 : ((q + W : Nat) : Int) <= (cap : Int) := by omega
 have b3 : ¬ (W : Int) < 3 := by omega
 have z1 := below1 w (.cells #[.int .i64 0, .int .i64 0, .int .u8 0] 48)
 have c1 := (hbt.later z1).2 q (by omega)
 have hnew := Has.new (w.alloc (.cells #[.int .i64 0, .int .i64 0, .int .u8 0] 48)) (.cells #[.int .i64 0, .int .i64 0, .int .u8 ((Mt.by' bs q : Nat) : Int)] 48)
 have hb2 := (below1 w (.cells #[.int .i64 0, .int .i64 0, .int .u8 0] 48)).alloc (by simp) (.cells #[.int .i64 0, .int .i64 0, .int .u8 ((Mt.by' bs q : Nat) : Int)] 48)
 have hnew0 := (Has.new w (.cells #[.int .i64 0, .int .i64 0, .int .u8 0] 48)).alloc (.cells #[.int .i64 0, .int .i64 0, .int .u8 ((Mt.by' bs q : Nat) : Int)] 48)
 obtain ⟨W2, hW2⟩ : ∃ X, X = (w.alloc (.cells #[.int .i64 0, .int .i64 0, .int .u8 0] 48)).alloc (.cells #[.int .i64 0, .int .i64 0, .int .u8 ((Mt.by' bs q : Nat) : Int)] 48) := ⟨_, rfl⟩
 rw [<- hW2] at hnew hb2 hnew0
 rw [show (w.alloc (.cells #[.int .i64 0, .int .i64 0, .int .u8 0] 48)).heap.size = w.heap.size + 1 by simp] at hnew
 have HP := LH hP
 have HBT := LH hbt
 have H8 := LH h8
 have HB2 := LH hb2
 have HT := LH (show TB W2 (w.heap.size + 1) (rtk bs q (0, 0)) from hnew)
 have HR0 := LH hnew0
 have HTA := LH (threeAt_ok b off cap n q bs W2 (hbt.later hb2) hn (by omega) (by omega))
 have V2 := LH hW2
 clear hP h8 hbt hn hcap hb2 hnew hnew0 hW2 hfin z1 hW
 go_enter Tryz.func85, Tryz.ntmps85
 go_wp2_with fail
 go_step3
 go_wp2_with fail
 rw [<- V2.out]
 refine HTA.out.mono ?_
 clear HTA V2
 rintro e w3 ⟨rfl, hb3⟩
 have HB3 := LH (HB2.out.trans (hb3.mono HB2.out.size))
 have HT3 := LH (show TB w3 (w.heap.size + 1) (rtk bs q (0, 0)) from Has.later HT.out hb3)
 have HR3 := LH (HR0.out.later hb3)
 have HL := LH (latest_pla (HP.out.later HB3.out) H8.out q)
 clear hb3 HT HB2 HR0
 unfold k3 at HL ⊢
 go_wp2_with fail
 refine HL.out.mono ?_
 clear HL
 rintro e w4 ⟨rfl, hb4⟩
 have HB4 := LH (HB3.out.trans (hb4.mono HB3.out.size))
 have HT4 := LH (show TB w4 (w.heap.size + 1) (rtk bs q (0, 0)) from Has.later HT3.out hb4)
 have HR4 := LH (HR3.out.later hb4)
 rw [az1_ov]
 have HO := LH (fun p (h : Mt.lst bs q m = some p) => (Mt.lst_some h).1)
 obtain ⟨o0, ho0⟩ : ∃ o, o = Mt.lst bs q m := ⟨_, rfl⟩
 rw [<- ho0] at HFIN HO
 rw [<- ho0]
 clear hb4 HT3 HB3 HR3 ho0 c1
 go_wp2_with fail
 go_step3
 go_wp2_with fail
 go_loopw [11, 36] (fun s11 s36 wr => ∃ (i : Nat) (o : Option Nat) (r : Nat × Nat), s11 = .int .i64 (ov o) /\ s36 = .int .i64 (i : Int) /\ i <= d /\ Hid (Unit -> fin = Mt.lg bs q (d - i) o r) /\ Hid (∀ p, o = some p -> p < m) /\ Hid (TB wr (w.heap.size + 1) (rtk bs q r)) /\ Hid (Below w.heap.size w wr) /\ Hid (Has wr w.heap.size (.cells #[.int .i64 0, .int .i64 0, .int .u8 0] 48 (0, 0)))) (fun _ s36 _ => d - (intOf s36).toNat)
 case atStart => exact ⟨0, o0, (0, 0), rfl, rfl, Nat.zero_le _, HFIN.out, HO, HT4, HB4, HR4⟩
 case round =>
  obtain ⟨i, o, r, rfl, rfl, hi, KF, KO, KT, KB, KR⟩ := hrel
  clear HFIN HO HT4 HB4 HR4
  by_cases hlt : i < d
  ·cases o with
   | none =>
    rw [show ov none = -1 from rfl]
    have hKF := KF.out ()
    obtain ⟨j, hj⟩ : ∃ j, d - i = j + 1 := ⟨d - i - 1, by omega⟩
    rw [hj] at hKF
    simp only [Mt.lg] at hKF
    have HE := LH (fun _ : Unit => hKF)
    clear hKF hj KF KO
    obtain ⟨t0, t1, t2⟩ := cells3 KT.out
    obtain ⟨z0, z1, z2⟩ := cells3 KR.out
    have f0 := KR.out.free 0
    have f1 := KR.out.free 1
    have f2 := KR.out.free 2
    have g0 := Has.free KT.out 0
    have g1 := Has.free KT.out 1
    have g2 := Has.free KT.out 2
    obtain ⟨x0, hx0⟩ : ∃ x, x = (rtk bs q r).len := ⟨_, rfl⟩
    obtain ⟨x1, hx1⟩ : ∃ x, x = (rtk bs q r).far := ⟨_, rfl⟩
    obtain ⟨x2, hx2⟩ : ∃ x, x = (rtk bs q r).lit := ⟨_, rfl⟩
    rw [<- hx0] at t0
    rw [<- hx1] at t1
    rw [<- hx2] at t2
    have HX := LH (And.intro hx0 (And.intro hx1 hx2))
    clear hx0 hx1 hx2
    go_wp2_with fail
    rw [Exit.noGoto_ret]
    obtain ⟨y0, y1, y2⟩ := cells3 (set3 KR.out (.int .i64 (x0 : Int)) (.int .i64 (x1 : Int)) (.int .u8 (x2 : Int)))
    refine bodyPost_ret (v := .agg #[.int .i64 (x0 : Int), .int .i64 (x1 : Int), .int .u8 (x2 : Int)]) ?_ rfl ⟨?_, below_set3 KB.out (Nat.le_refl _) _ _ _⟩
    ·simp [results, Tryz.results85, go_sem, y0, y1, y2]
    ·rw [HE.out ()]; obtain ⟨rfl, rfl, rfl⟩ := HX.out; rfl
   | some p =>
    rw [show ov (some p) = (p : Int) from rfl]
    have hpm : p < m := KO.out p rfl
    obtain ⟨j, hj0⟩ : ∃ j, d - i = j + 1 := ⟨d - i - 1, by omega⟩
    by_cases hf : 32768 < q - p
    ·rw [hj0] at KF
     have HE : Hid (Unit -> fin = r) := fun _ => by rw [KF.out ()]; simp only [Mt.lg]; rw [if_pos hf]
     have e5 : IntKind.i64.wrap ((q : Int) - (p : Int)) = ((q - p : Nat) : Int) := by rw [IntWalk.i64_in _ (by omega)]; omega
     have e6 : (32768 : Int) < ((q - p : Nat) : Int) := by omega
     clear KF KO hf
     obtain ⟨t0, t1, t2⟩ := cells3 KT.out
     obtain ⟨z0, z1, z2⟩ := cells3 KR.out
     have f0 := KR.out.free 0
     have f1 := KR.out.free 1
     have f2 := KR.out.free 2
     have g0 := Has.free KT.out 0
     have g1 := Has.free KT.out 1
     have g2 := Has.free KT.out 2
     obtain ⟨x0, hx0⟩ : ∃ x, x = (rtk bs q r).len := ⟨_, rfl⟩
     obtain ⟨x1, hx1⟩ : ∃ x, x = (rtk bs q r).far := ⟨_, rfl⟩
     obtain ⟨x2, hx2⟩ : ∃ x, x = (rtk bs q r).lit := ⟨_, rfl⟩
     rw [<- hx0] at t0
     rw [<- hx1] at t1
     rw [<- hx2] at t2
     have HX := LH (And.intro hx0 (And.intro hx1 hx2))
     clear hx0 hx1 hx2
     go_wp2_with fail
     rw [Exit.noGoto_ret]
     obtain ⟨y0, y1, y2⟩ := cells3 (set3 KR.out (.int .i64 (x0 : Int)) (.int .i64 (x1 : Int)) (.int .u8 (x2 : Int)))
     refine bodyPost_ret (v := .agg #[.int .i64 (x0 : Int), .int .i64 (x1 : Int), .int .u8 (x2 : Int)]) ?_ rfl ⟨?_, below_set3 KB.out (Nat.le_refl _) _ _ _⟩
     ·simp [results, Tryz.results85, go_sem, y0, y1, y2]
     ·rw [HE.out ()]; obtain ⟨rfl, rfl, rfl⟩ := HX.out; rfl
    ·have e5 : IntKind.i64.wrap ((q : Int) - (p : Int)) = ((q - p : Nat) : Int) := by rw [IntWalk.i64_in _ (by omega)]; omega
     have e6 : ¬ (32768 : Int) < ((q - p : Nat) : Int) := by omega
     have e7 : (p : Int) <= (n : Int) := by omega
     have HA := LH (fun wx (hb : Below w.heap.size w wx) => alike_ok b (off + p) (cap - p) (n - p) (off + q) (cap - q) W p q bs wx (fun j hj => by rw [Nat.add_assoc]; exact (HBT.out.later hb).2 (p + j) (by have := HN.out; omega)) (fun j hj => by rw [Nat.add_assoc]; exact (HBT.out.later hb).2 (q + j) (by have := HN.out; omega)) (by omega) (by omega))
     obtain ⟨k, hkk⟩ : ∃ k, k = Mt.alk bs p q W 0 := ⟨_, rfl⟩
     by_cases hk : k = W
     ·rw [hj0] at KF
      rw [hkk] at hk
      have HE : Hid (Unit -> fin = (W, q - p)) := fun _ => by rw [KF.out ()]; simp only [Mt.lg]; rw [if_neg hf, <- HWW.out, if_pos hk]
      rw [hk] at HA
      clear KF KO hk
      obtain ⟨t0, t1, t2⟩ := cells3 KT.out
      obtain ⟨z0, z1, z2⟩ := cells3 KR.out
      have f0 := KR.out.free 0
      have f1 := KR.out.free 1
      have f2 := KR.out.free 2
      have g0 := Has.free KT.out 0
      have g1 := Has.free KT.out 1
      have g2 := Has.free KT.out 2
      obtain ⟨x0, hx0⟩ : ∃ x, x = (rtk bs q r).len := ⟨_, rfl⟩
      obtain ⟨x1, hx1⟩ : ∃ x, x = (rtk bs q r).far := ⟨_, rfl⟩
      obtain ⟨x2, hx2⟩ : ∃ x, x = (rtk bs q r).lit := ⟨_, rfl⟩
      rw [<- hx0] at t0
      rw [<- hx1] at t1
      rw [<- hx2] at t2
      have HX := LH (And.intro hx0 (And.intro hx1 hx2))
      clear hx0 hx1 hx2
      go_wp2_with fail
      refine (HA.out _ KB.out).mono ?_
      clear HA
      rintro e w5 ⟨rfl, rfl⟩
      have KR2 := LH (has_set3 (g := w.heap.size + 1) KR.out (by omega) (.int .i64 (W : Int)) (.int .i64 ((q - p : Nat) : Int)) (.int .u8 0))
      have KB2 := LH (below_set3 (g := w.heap.size + 1) KB.out (by omega) (.int .i64 (W : Int)) (.int .i64 ((q - p : Nat) : Int)) (.int .u8 0))
      go_wp2_with fail
      rw [Exit.noGoto_ret]
      obtain ⟨y0, y1, y2⟩ := cells3 (set3 KR2.out (.int .i64 (W : Int)) (.int .i64 ((q - p : Nat) : Int)) (.int .u8 0))
      refine bodyPost_ret (v := .agg #[.int .i64 (W : Int), .int .i64 ((q - p : Nat) : Int), .int .u8 0]) ?_ rfl ⟨?_, below_set3 KB2.out (Nat.le_refl _) _ _ _⟩
      ·simp [results, Tryz.results85, go_sem, y0, y1, y2]
      ·rw [HE.out ()]; unfold rtk; rw [if_neg (show ¬ W = 0 by omega)]; rfl
     ·have hj : d - i = d - (i + 1) + 1 := by omega
      have HK := LH hkk
      rw [<- hkk] at HA
      clear hkk
      have hpl : p < m := KO.out p rfl
      obtain ⟨A, f, q1, q2, q3, q4, q5, q6⟩ := HP.out
      obtain ⟨ba, oa, ca, rfl, hoa, hca⟩ := own_cell q6 (by omega)
      subst hoa
      have a1 := hca p (by omega)
      rw [az_get bs m p hpl, az1_ov, Nat.zero_add] at a1
      obtain ⟨-, a0, -, -⟩ := q3.two
      have hba : ba < w.heap.size := World.block_lt_of_cell? _ _ a1
      have hRl := q3.lt
      have HAW := LH (And.intro a0 a1)
      replace a0 := (KB.out.cell (p := ⟨R, 1, none⟩) hRl).trans a0
      replace a1 := (KB.out.cell (p := ⟨ba, p, none⟩) hba).trans a1
      obtain ⟨op, hop⟩ : ∃ op, op = Mt.lst bs p p := ⟨_, rfl⟩
      rw [<- hop] at a1 HAW
      have hai : (p : Int) < (m : Int) := by omega
      have KO2 : Hid (∀ x, op = some x -> x < m) := fun x hx => by have := (Mt.lst_some (hop ▸ hx)).1; omega
      clear q1 q2 q3 q4 q5 q6 hca hpl
      obtain ⟨t0, t1, t2⟩ := cells3 KT.out
      obtain ⟨z0, z1, z2⟩ := cells3 KR.out
      have f0 := KR.out.free 0
      have f1 := KR.out.free 1
      have f2 := KR.out.free 2
      have g0 := Has.free KT.out 0
      have g1 := Has.free KT.out 1
      have g2 := Has.free KT.out 2
      obtain ⟨x0, hx0⟩ : ∃ x, x = (rtk bs q r).len := ⟨_, rfl⟩
      obtain ⟨x1, hx1⟩ : ∃ x, x = (rtk bs q r).far := ⟨_, rfl⟩
      obtain ⟨x2, hx2⟩ : ∃ x, x = (rtk bs q r).lit := ⟨_, rfl⟩
      rw [<- hx0] at t0
      rw [<- hx1] at t1
      rw [<- hx2] at t2
      have HX := LH (And.intro hx0 (And.intro hx1 hx2))
      clear hx0 hx1 hx2
      have hk2 : ¬ (k : Int) = (W : Int) := by omega
      have HA2 := LH (HA.out _ KB.out)
      clear HA
      go_wp2_with fail
      refine HA2.out.mono ?_
      rintro e w5 ⟨rfl, rfl⟩
      by_cases hb : r.1 < k
      ·have hlt1 : (x0 : Int) < (k : Int) := by have := HX.out.1; rw [rtk_len] at this; omega
       have KF2 : Hid (Unit -> fin = Mt.lg bs q (d - (i + 1)) op (k, q - p)) := fun _ => by rw [KF.out (), hop, hj]; simp only [Mt.lg]; rw [if_neg hf, <- HWW.out, <- HK.out, if_neg hk, if_pos hb]
       have KT2 : Hid (TB (((wr.setCell ⟨w.heap.size + 1, 0, none⟩ (.int .i64 (k : Int))).setCell ⟨w.heap.size + 1, 1, none⟩ (.int .i64 ((q - p : Nat) : Int))).setCell ⟨w.heap.size + 1, 2, none⟩ (.int .u8 0)) (w.heap.size + 1) (rtk bs q (k, q - p))) := by
        have h0 : rtk bs q (k, q - p) = ⟨k, q - p, 0⟩ := by unfold rtk; rw [if_neg (show ¬ k = 0 by omega)]
        rw [h0]
        exact set3 KT.out _ _ _
       have KR2 := LH (has_set3 (g := w.heap.size + 1) KR.out (by omega) (.int .i64 (k : Int)) (.int .i64 ((q - p : Nat) : Int)) (.int .u8 0))
       have KB2 := LH (below_set3 (g := w.heap.size + 1) KB.out (by omega) (.int .i64 (k : Int)) (.int .i64 ((q - p : Nat) : Int)) (.int .u8 0))
       have a2 := (KB2.out.cell (p := ⟨R, 1, none⟩) hRl).trans HAW.out.1
       have a3 := (KB2.out.cell (p := ⟨ba, p, none⟩) hba).trans HAW.out.2
       clear KF KO hj hop hb KT KB KR HA2 hba hRl
       go_wp2_with fail
       go_roundw
       case rel => exact ⟨i + 1, op, (k, q - p), rfl, by go_num, by omega, KF2, KO2, KT2, KB2, KR2⟩
       case measure => simp [intOf]; omega
      ·have hlt1 : ¬ (x0 : Int) < (k : Int) := by have := HX.out.1; rw [rtk_len] at this; omega
       have KF2 : Hid (Unit -> fin = Mt.lg bs q (d - (i + 1)) op r) := fun _ => by rw [KF.out (), hop, hj]; simp only [Mt.lg]; rw [if_neg hf, <- HWW.out, <- HK.out, if_neg hk, if_neg hb]
       clear KF KO hj hop hb HA2 hba hRl
       go_wp2_with fail
       go_roundw
       case rel => exact ⟨i + 1, op, r, rfl, by go_num, by omega, KF2, KO2, KT, KB, KR⟩
       case measure => simp [intOf]; omega
  ·obtain rfl : i = d := by omega
   have hKF := KF.out ()
   rw [Nat.sub_self] at hKF
   simp only [Mt.lg] at hKF
   have HE := LH (fun _ : Unit => hKF)
   clear hKF KF KO
   obtain ⟨t0, t1, t2⟩ := cells3 KT.out
   obtain ⟨z0, z1, z2⟩ := cells3 KR.out
   have f0 := KR.out.free 0
   have f1 := KR.out.free 1
   have f2 := KR.out.free 2
   have g0 := Has.free KT.out 0
   have g1 := Has.free KT.out 1
   have g2 := Has.free KT.out 2
   obtain ⟨x0, hx0⟩ : ∃ x, x = (rtk bs q r).len := ⟨_, rfl⟩
   obtain ⟨x1, hx1⟩ : ∃ x, x = (rtk bs q r).far := ⟨_, rfl⟩
   obtain ⟨x2, hx2⟩ : ∃ x, x = (rtk bs q r).lit := ⟨_, rfl⟩
   rw [<- hx0] at t0
   rw [<- hx1] at t1
   rw [<- hx2] at t2
   have HX := LH (And.intro hx0 (And.intro hx1 hx2))
   clear hx0 hx1 hx2
   go_wp2_with fail
   rw [Exit.noGoto_ret]
   obtain ⟨y0, y1, y2⟩ := cells3 (set3 KR.out (.int .i64 (x0 : Int)) (.int .i64 (x1 : Int)) (.int .u8 (x2 : Int)))
   refine bodyPost_ret (v := .agg #[.int .i64 (x0 : Int), .int .i64 (x1 : Int), .int .u8 (x2 : Int)]) ?_ rfl ⟨?_, below_set3 KB.out (Nat.le_refl _) _ _ _⟩
   ·simp [results, Tryz.results85, go_sem, y0, y1, y2]
   ·rw [HE.out ()]; obtain ⟨rfl, rfl, rfl⟩ := HX.out; rfl
end Go.Proofs.YtckbhciehmokdaaGreatDoor
namespace Go.Proofs.YtckbhciehmokdaaGreatDoor
set_option maxRecDepth 100000
set_option maxHeartbeats 8000000
namespace If
theorem tell_from (ts : List Tk) : ∀ out : List Nat, (ts.foldl tell1 out).length = out.length + (ts.map sz).sum := by
 induction ts with
 | nil => intro out; simp
 | cons t ts ih => intro out; rw [List.foldl_cons, ih, tell1_length, List.map_cons, List.sum_cons]; omega
theorem tell_len (ts : List Tk) : (tell ts).length = (ts.map sz).sum := by
 unfold tell
 rw [tell_from]
 simp
end If
namespace Mt
def all (bs : List Nat) (depth : Nat) : List If.Tk := fnd bs depth (bs.length + 1) 0
theorem all_tell {bs : List Nat} (h8 : ∀ x ∈ bs, x < 256) (depth : Nat) : If.tell (all bs depth) = bs := by
 have := fnd_tell h8 depth (bs.length + 1) 0 (by omega) (Nat.zero_le _)
 exact this
theorem all_toks {bs : List Nat} (h8 : ∀ x ∈ bs, x < 256) (depth : Nat) : If.Toks (all bs depth) := by
 intro i t ht
 obtain ⟨n, n1, n2, n3⟩ := fnd_ok h8 depth (bs.length + 1) 0 i t (Nat.zero_le _) ht
 have e : n = (If.tell ((all bs depth).take i)).length := by
  rw [If.tell_len, n3]
  unfold all
  omega
 rw [<- e]
 exact n1
end Mt
theorem bytk_tell : ∀ (bs out : List Nat), (bytk bs).foldl If.tell1 out = out ++ bs
 | [], out => by simp [bytk]
 | b :: bs, out => by
  have e : bytk (b :: bs) = ⟨0, 0, b⟩ :: bytk bs := rfl
  have h : If.tell1 out ⟨0, 0, b⟩ = out ++ [b] := by unfold If.tell1; rw [if_pos rfl]
  rw [e, List.foldl_cons, h, bytk_tell bs, List.append_assoc]
  rfl
theorem bytk_all (bs : List Nat) : If.tell (bytk bs) = bs := by
 have := bytk_tell bs []
 exact this
theorem bytk_toks {bs : List Nat} (h8 : ∀ x ∈ bs, x < 256) : If.Toks (bytk bs) := by
 intro i t ht
 unfold bytk at ht
 rw [List.getElem?_map, Option.map_eq_some_iff] at ht
 obtain ⟨b, hb, rfl⟩ := ht
 exact ⟨Or.inl ⟨rfl, rfl, h8 _ (List.mem_of_getElem? hb)⟩, Nat.zero_le _⟩
end Go.Proofs.YtckbhciehmokdaaGreatDoor
namespace Go.Proofs.YtckbhciehmokdaaGreatDoor
set_option maxRecDepth 100000
set_option maxHeartbeats 8000000
open Go.RowKit Go.Maps
theorem longest_any (base R B b off cap n q d : Nat) (bs : List Nat) (w : World) (hP : Pla base w R B bs (Mt.laid bs q)) (h8 : ∀ x ∈ bs, x < 256) (hbt : Bt w b off bs) (hn : n = bs.length) (h9 : n <= 65536) (hcap : n <= cap) (hq : q < n) (hd : d <= 65536) :
  Calls Tryz.prog 85 #[.pointer (some ⟨R, 0, none⟩), .slice (some ⟨b, off, none⟩) n cap, .int .i64 (q : Int), .int .i64 (d : Int)] w fun e w' => e = .returned (tkv (Mt.tok bs d q (Mt.laid bs q))) /\ Below w.heap.size w w' := by
 by_cases hw : Mt.wid bs q < 3
 ·exact longest_short R b off cap n q d bs w hbt hn h9 hcap hq hw (Mt.laid bs q)
 ·exact longest_long base R B b off cap n q d (Mt.laid bs q) bs w hP h8 hbt hn h9 hcap hq hw (Mt.laid_le bs q) hd
theorem app_tok {w : World} {base m : Nat} {v : Value} {ts : List If.Tk} (hown : w.ownsRow base 48 3 v m (tc ts)) (t : If.Tk) (g : Nat) (hx : TB w g t) (h1 : m <= 100000) (hb : base <= w.heap.size) :
  ∃ v' w', (Builtin.append_ #[30, 30] 30 #[v, .slice (some ⟨g, 0, none⟩) 1 1]).run Tryz.prog w = .ok v' w' /\ w'.ownsRow base 48 3 v' (m + 1) (tc (ts ++ [t])) /\ w.grownBy w' v.ownBlock := by
 obtain ⟨i0, hi, hz0, hz1, hz2⟩ := info_parts Tryz.infoTok
 have hnews : ∀ (j : Nat) (u : Value), [Value.int .i64 (t.len : Int), .int .i64 (t.far : Int), .int .u8 (t.lit : Int)][j]? = some u -> w.cell? ((⟨g, 0, none⟩ : Addr).add j) = some u := fun j u hj => by
  obtain ⟨c0, c1, c2⟩ := tk_cells hx
  match j, hj with
  | 0, hj => simp at hj; subst hj; simpa [Addr.add] using c0
  | 1, hj => simp at hj; subst hj; simpa [Addr.add] using c1
  | 2, hj => simp at hj; subst hj; simpa [Addr.add] using c2
 have hone : ∀ u ∈ [Value.int .i64 (t.len : Int), .int .i64 (t.far : Int), .int .u8 (t.lit : Int)], u.oneCell' = true := fun u hu => by simp at hu; rcases hu with rfl | rfl | rfl <;> rfl
 obtain ⟨v', w', h1, h2, h3, _⟩ := run_append_own (P := Tryz.prog) (w := w) base 30 30 48 i0 _ 3 24 Tryz.underlying30 hi hz0 hz1 hz2 rfl (by decide) v m (tc ts) hown ⟨g, 0, none⟩ 1 1 [.int .i64 (t.len : Int), .int .i64 (t.far : Int), .int .u8 (t.lit : Int)] rfl hnews hone (by unfold maxLen; omega) (by omega) hb
 exact ⟨v', w', h1, by rw [tc_snoc]; exact h2, h3⟩
theorem tok_le {bs : List Nat} (h8 : ∀ x ∈ bs, x < 256) (d q m : Nat) (ha : q < bs.length) (hm : m <= q) : (Mt.tok bs d q m).len <= 258 := by
 rcases (Mt.tok_is h8 d q m ha hm).1.1 with ⟨h, _⟩ | ⟨_, _, h, _⟩ <;> omega
theorem Pla.grown {base n : Nat} {w w' : World} {R B : Nat} {bs : List Nat} {m : Nat} {v : Value} {xs : List Value} (h : Pla base w R B bs m) (ho : w.ownsRow base 48 3 v n xs) (hg : w.grownBy w' v.ownBlock) : Pla base w' R B bs m := by
 obtain ⟨A, f, h1, h2, hx, hm, hf, ha⟩ := h
 refine ⟨A, f, h1, h2, hx.grown hg (fun e => own_ne_ty ho hx (by decide) e.symm), hm.same (hg.block B hm.lt (fun e => own_ne_ap ho hm e.symm)), hf, own_same9 ha (fun g hg2 => hg.block g (World.ownsRow.lt ha g hg2).2 (fun e => ?_))⟩
 rcases ha.2 with ⟨rfl, _⟩ | ⟨g2, cap, cur, rfl, _, hc, _⟩
 ·simp [Value.ownBlock] at hg2
 ·simp only [Value.ownBlock, Option.some.injEq] at hg2
  subst hg2
  exact own_ne_ty ho (show Has w g2 (.cells cur 3 (0, 0)) from hc) (by decide) e.symm
theorem places_new (w : World) (bs : List Nat) : ∃ W, W = (w.alloc (.map #[] 0)).alloc (.cells #[.map (some w.heap.size), .slice none 0 0] 125) /\ Pla w.heap.size W (w.heap.size + 1) w.heap.size bs (Mt.laid bs 0) /\ Below w.heap.size w W /\ w.heap.size <= W.heap.size := by
 have hx := Has.new (w.alloc (.map #[] 0)) (.cells #[.map (some w.heap.size), .slice none 0 0] 125)
 rw [show (w.alloc (.map #[] 0)).heap.size = w.heap.size + 1 by simp] at hx
 have e : Mt.laid bs 0 = 0 := by unfold Mt.laid; omega
 refine ⟨_, rfl, ⟨.slice none 0 0, fun _ => none, by omega, Nat.le_refl _, hx, ?_, fun x => ?_, ?_⟩, (below1 w _).alloc (by simp) _, by simp; omega⟩
 ·rw [e]; exact (Ap.new w).alloc _
 ·rw [e]; rfl
 ·rw [e]; exact ⟨rfl, Or.inl ⟨rfl, rfl⟩⟩
theorem find_some (b off cap n d : Nat) (bs : List Nat) (w : World) (hbt : Bt w b off bs) (h8 : ∀ x ∈ bs, x < 256) (hn : n = bs.length) (h9 : n <= 65536) (hcap : n <= cap) (hd : 1 <= d) (hd2 : d <= 4096) :
  Calls Tryz.prog 46 #[.slice (some ⟨b, off, none⟩) n cap, .int .i64 (d : Int)] w fun e w' => ∃ v, e = .returned (.tuple #[v, .int .i64 0]) /\ w'.ownsRow w.heap.size 48 3 v (Mt.all bs d).length (tc (Mt.all bs d)) /\ Below w.heap.size w w' := by
 have hmm := @run_makeMap Tryz.prog
 have c1 : ¬ (65536 : Int) < (n : Int) := by omega
 have c2 : ¬ (d : Int) < 1 := by omega
 have c3 : ¬ (4096 : Int) < (d : Int) := by omega
 have HBT := LH hbt
 have H8 := LH h8
 have HN := LH hn
 obtain ⟨W, hW, hP0, hB0, hz0⟩ := places_new w bs
 have HP0 := LH hP0
 have HB0 := LH hB0
 have V := LH hW
 have HL := LH (fun (q : Nat) (wx : World) (hq : q < n) (hb : Below w.heap.size w wx) (hp : Pla w.heap.size wx (w.heap.size + 1) w.heap.size bs (Mt.laid bs q)) => longest_any w.heap.size (w.heap.size + 1) w.heap.size b off cap n q d bs wx hp h8 ⟨Nat.lt_of_lt_of_le hbt.1 hb.size, fun j hj => (hb.cell (p := ⟨b, off + j, none⟩) hbt.1).trans (hbt.2 j hj)⟩ hn h9 hcap hq (by omega))
 have HLAY := LH (fun (q e : Nat) (wx : World) (hb : Below w.heap.size w wx) (hp : Pla w.heap.size wx (w.heap.size + 1) w.heap.size bs q) (he : e <= n) (hq : q <= Mt.laid bs e) => lay_pla w.heap.size (w.heap.size + 1) w.heap.size b off cap n q e bs wx hp h8 ⟨Nat.lt_of_lt_of_le hbt.1 hb.size, fun j hj => (hb.cell (p := ⟨b, off + j, none⟩) hbt.1).trans (hbt.2 j hj)⟩ hbt.1 hn h9 he hq hb.size)
 clear hbt h8 hn hW hP0 hB0 hz0
 go_enter Tryz.func46, Tryz.ntmps46
 go_wp2_with fail
 rw [<- V.out]
 clear V
 go_loopw [6, 8] (fun s6 s8 wr => ∃ (q k c6 : Nat) (a6 : Option Addr) (ts : List If.Tk), s8 = .int .i64 (q : Int) /\ q <= n /\ s6 = .slice a6 k c6 /\ Hid (Unit -> Mt.all bs d = ts ++ Mt.fnd bs d (n + 1 - k) q /\ k <= q /\ k = ts.length) /\ Hid (wr.ownsRow w.heap.size 48 3 (.slice a6 k c6) k (tc ts)) /\ Hid (Pla w.heap.size wr (w.heap.size + 1) w.heap.size bs (Mt.laid bs q)) /\ Hid (Below w.heap.size w wr)) (fun _ s8 _ => n - (intOf s8).toNat)
 case atStart => exact ⟨0, 0, 0, none, [], rfl, Nat.zero_le _, rfl, fun _ => ⟨by rw [HN.out]; rfl, Nat.le_refl _, rfl⟩, ⟨rfl, Or.inl ⟨rfl, rfl⟩⟩, HP0, HB0⟩
 case round =>
  obtain ⟨q, k, c6, a6, ts, rfl, hq, rfl, KT, KO, KP, KB⟩ := hrel
  clear HP0 HB0
  by_cases hlt : q < n
  ·have hlt1 : (q : Int) < (n : Int) := by omega
   have hk := (KT.out ()).2.1
   have HL1 := LH (HL.out q _ hlt KB.out KP.out)
   have htl := tok_le H8.out d q (Mt.laid bs q) (by rw [<- HN.out]; exact hlt) (Mt.laid_le bs q)
   have hsz := (Mt.tok_is H8.out d q (Mt.laid bs q) (by rw [<- HN.out]; exact hlt) (Mt.laid_le bs q)).2.2
   rw [<- HN.out] at hsz
   have hfn : Hid (Unit -> Mt.fnd bs d (n + 1 - k) q = Mt.tok bs d q (Mt.laid bs q) :: Mt.fnd bs d (n + 1 - (k + 1)) (q + If.sz (Mt.tok bs d q (Mt.laid bs q)))) := fun _ => by
    obtain ⟨z, hz⟩ : ∃ z, n + 1 - k = z + 1 := ⟨n - k, by omega⟩
    rw [hz, show n + 1 - (k + 1) = z by omega]
    simp only [Mt.fnd]
    rw [<- HN.out, if_neg (by omega)]
   obtain ⟨t, ht⟩ : ∃ t, t = Mt.tok bs d q (Mt.laid bs q) := ⟨_, rfl⟩
   rw [<- ht] at HL1 hfn htl hsz
   clear ht
   have hs1 := If.sz_pos t
   unfold tkv at HL1
   go_wp2_with fail
   refine HL1.out.mono ?_
   clear HL1
   rintro e w1 ⟨rfl, hb1⟩
   have hb2 := (hb1.alloc hb1.size (.cells #[.int .i64 (t.len : Int), .int .i64 (t.far : Int), .int .u8 (t.lit : Int)] 48))
   have hT2 : TB (w1.alloc (.cells #[.int .i64 (t.len : Int), .int .i64 (t.far : Int), .int .u8 (t.lit : Int)] 48)) w1.heap.size t := Has.new w1 _
   obtain ⟨d0, d1, d2⟩ := tk_cells hT2
   have hb3 := hb2.alloc (by simp; have := hb1.size; omega) (.cells #[.int .i64 (t.len : Int), .int .i64 (t.far : Int), .int .u8 (t.lit : Int)] 48)
   have hT3 : TB _ w1.heap.size t := Has.alloc hT2 (.cells #[.int .i64 (t.len : Int), .int .i64 (t.far : Int), .int .u8 (t.lit : Int)] 48)
   have hN3 : TB ((w1.alloc (.cells #[.int .i64 (t.len : Int), .int .i64 (t.far : Int), .int .u8 (t.lit : Int)] 48)).alloc (.cells #[.int .i64 (t.len : Int), .int .i64 (t.far : Int), .int .u8 (t.lit : Int)] 48)) (w1.heap.size + 1) t := by
    have h := Has.new (w1.alloc (.cells #[.int .i64 (t.len : Int), .int .i64 (t.far : Int), .int .u8 (t.lit : Int)] 48)) (.cells #[.int .i64 (t.len : Int), .int .i64 (t.far : Int), .int .u8 (t.lit : Int)] 48)
    rwa [show (w1.alloc (.cells #[.int .i64 (t.len : Int), .int .i64 (t.far : Int), .int .u8 (t.lit : Int)] 48)).heap.size = w1.heap.size + 1 by simp] at h
   obtain ⟨W3, hW3⟩ : ∃ W, W = (w1.alloc (.cells #[.int .i64 (t.len : Int), .int .i64 (t.far : Int), .int .u8 (t.lit : Int)] 48)).alloc (.cells #[.int .i64 (t.len : Int), .int .i64 (t.far : Int), .int .u8 (t.lit : Int)] 48) := ⟨_, rfl⟩
   rw [<- hW3] at hb3 hT3 hN3
   have hO3 := own_stays KO.out hb3
   have hbw3 := KB.out.trans (hb3.mono KB.out.size)
   obtain ⟨v4, w4, hrun, hO4, hg4⟩ := app_tok hO3 t (w1.heap.size + 1) hN3 (by omega) hbw3.size
   obtain ⟨a7, c7, rfl⟩ := own_slice hO4
   have hP4 := (KP.out.later hb3).grown hO3 hg4
   have hB4 := Below.grown hbw3 hg4 hbw3.size (fun q hq => (World.ownsRow.lt hO3 q hq).1)
   have hT4 : TB w4 w1.heap.size t := Has.grown hT3 hg4 (fun e => by
    rcases hO3.2 with ⟨h0, _⟩ | ⟨g2, cap2, cur, h0, _, hc, _⟩
    ·rw [h0] at e; simp [Value.ownBlock] at e
    ·have hlo := (World.ownsRow.lt KO.out g2 (by rw [h0]; rfl)).2
     rw [h0] at e
     simp only [Value.ownBlock, Option.some.injEq] at e
     have := hb1.size
     omega)
   rw [hW3] at hrun
   obtain ⟨e0, e1, e2⟩ := tk_cells hT4
   have HRUN := LH hrun
   have HO4 := LH hO4
   have HP4 := LH hP4
   have HB4 := LH hB4
   have HSZ := LH (size_ok t htl w4)
   clear hb1 hb2 hT2 hb3 hT3 hN3 hW3 hO3 hbw3 hrun hO4 hg4 hP4 hB4 hT4 KO KP KB hk
   go_wp2_with (at_builtin; (refine wpList_append_is rfl (.tmp 29) (.tmp 31) 30 rfl _ _ _ _ rfl rfl HRUN.out ?_))
   refine HSZ.out.mono ?_
   clear HSZ HRUN
   rintro e w5 ⟨rfl, hb5⟩
   have HO5 := LH (own_stays HO4.out hb5)
   have HP5 := LH (HP4.out.later hb5)
   have HB5 := LH (HB4.out.trans (hb5.mono HB4.out.size))
   obtain ⟨z, hz⟩ : ∃ z, z = If.sz t := ⟨_, rfl⟩
   rw [<- hz] at hfn hsz hs1
   rw [<- hz]
   have HLY := LH (HLAY.out (Mt.laid bs q) (q + z) w5 HB5.out HP5.out hsz (by unfold Mt.laid; rw [<- HN.out]; omega))
   have e9 : IntKind.i64.wrap ((q : Int) + (z : Int)) = ((q + z : Nat) : Int) := by rw [IntWalk.i64_in _ (by omega)]; omega
   clear hb5 HO4 HP4 HB4 hz e0 e1 e2 d0 d1 d2
   go_wp2_with fail
   refine (show Calls Tryz.prog 87 #[_, _, .int .i64 ((q + z : Nat) : Int)] _ _ from HLY.out).mono ?_
   clear HLY
   rintro e w6 ⟨rfl, hP6, hb6, hk6⟩
   have HO6 : Hid (w6.ownsRow w.heap.size 48 3 (.slice a7 (k + 1) c7) (k + 1) (tc (ts ++ [t]))) := own_same9 HO5.out (fun g hg => by
    rcases HO5.out.2 with ⟨h0, _⟩ | ⟨g2, cap2, cur, h0, _, hc, _⟩
    ·rw [h0] at hg; simp [Value.ownBlock] at hg
    ·rw [h0] at hg
     simp only [Value.ownBlock, Option.some.injEq] at hg
     subst hg
     rw [hc]
     exact hk6 g2 cur (0, 0) hc)
   have HP6 := LH hP6
   have HB6 := LH (HB5.out.trans hb6)
   have KT6 : Hid (Unit -> Mt.all bs d = (ts ++ [t]) ++ Mt.fnd bs d (n + 1 - (k + 1)) (q + z) /\ k + 1 <= q + z /\ k + 1 = (ts ++ [t]).length) := fun _ => by
    obtain ⟨h1, h2, h3⟩ := KT.out ()
    refine ⟨?_, by omega, by simp; omega⟩
    rw [h1, hfn.out (), List.append_assoc]
    rfl
   clear hP6 hb6 hk6 KT hfn HO5 HP5 HB5
   go_wp2_with fail
   go_roundw
   case rel => exact ⟨q + z, k + 1, c7, a7, ts ++ [t], by go_num, hsz, rfl, KT6, HO6, HP6, HB6⟩
   case measure => simp [intOf]; omega
  ·obtain rfl : q = n := by omega
   have hlt1 : ¬ (q : Int) < (q : Int) := by omega
   have hfin : Hid (Unit -> Mt.all bs d = ts /\ k = ts.length) := fun _ => by
    obtain ⟨h1, h2, h3⟩ := KT.out ()
    have e : Mt.fnd bs d (q + 1 - k) q = [] := by
     obtain ⟨z, hz⟩ : ∃ z, q + 1 - k = z + 1 := ⟨q - k, by omega⟩
     rw [hz]
     simp only [Mt.fnd]
     rw [<- HN.out, if_pos (Nat.le_refl _)]
    rw [e, List.append_nil] at h1
    exact ⟨h1, h3⟩
   clear KT
   go_wp2_with fail
   go_ret2
   obtain ⟨h1, h2⟩ := hfin.out ()
   exact ⟨_, rfl, by rw [h1, <- h2]; exact KO.out, KB.out⟩
end Go.Proofs.YtckbhciehmokdaaGreatDoor
namespace Go.Proofs.YtckbhciehmokdaaGreatDoor.Ls
set_option maxRecDepth 100000
set_option maxHeartbeats 8000000
open Go.RowKit Go.Shelf
attribute [local go_sem] Oper.semAt_some
end Go.Proofs.YtckbhciehmokdaaGreatDoor.Ls
namespace Go.Proofs.YtckbhciehmokdaaGreatDoor.Ls
set_option maxRecDepth 100000
set_option maxHeartbeats 8000000
open Go.RowKit Go.Shelf
attribute [local go_sem] Oper.semAt_some
end Go.Proofs.YtckbhciehmokdaaGreatDoor.Ls
namespace Go.Proofs.YtckbhciehmokdaaGreatDoor.Ls
set_option maxRecDepth 100000
set_option maxHeartbeats 8000000
open Go.RowKit
instance (zs : List Int) : Decidable (Valid zs) := by unfold Valid; infer_instance
end Go.Proofs.YtckbhciehmokdaaGreatDoor.Ls
namespace Go.Proofs.YtckbhciehmokdaaGreatDoor.Ls
set_option maxRecDepth 100000
set_option maxHeartbeats 8000000
open Go.RowKit
def Pk (w : World) : Lm.Tr -> Nat -> Prop
 | .leaf x s, b => Has w b (.cells #[.int .i64 (x : Int), .int .i64 (s : Int), .pointer none, .pointer none] 252 (0, 0))
 | .node x y, b => ∃ p q, Has w b (.cells #[.int .i64 ((x.wt + y.wt : Nat) : Int), .int .i64 0, .pointer (some ⟨p, 0, none⟩), .pointer (some ⟨q, 0, none⟩)] 252 (0, 0)) /\ Pk w x p /\ Pk w y q
theorem Pk.has {w : World} {t : Lm.Tr} {b : Nat} (h : Pk w t b) : ∃ s p q, Has w b (.cells #[.int .i64 (t.wt : Int), s, p, q] 252 (0, 0)) := by
 cases t with
 | leaf x s => exact ⟨_, _, _, h⟩
 | node x y => obtain ⟨p, q, h, _⟩ := h; exact ⟨_, _, _, h⟩
theorem Pk.lt {w : World} {t : Lm.Tr} {b : Nat} (h : Pk w t b) : b < w.heap.size := by obtain ⟨s, p, q, h⟩ := h.has; exact h.lt
theorem Pk.wt {w : World} {t : Lm.Tr} {b : Nat} (h : Pk w t b) : w.cell? ⟨b, 0, none⟩ = some (.int .i64 (t.wt : Int)) := by obtain ⟨s, p, q, h⟩ := h.has; rw [h.cell]; rfl
theorem Pk.later {w w' : World} (hb : Below w.heap.size w w') : ∀ {t : Lm.Tr} {b : Nat}, Pk w t b -> Pk w' t b
 | .leaf x s, b, h => Has.later h hb
 | .node x y, b, h => by
  obtain ⟨p, q, h, hx, hy⟩ := h
  exact ⟨p, q, h.later hb, Pk.later hb hx, Pk.later hb hy⟩
theorem Pk.keep {w w' : World} (hk : ∀ b cs, Has w b (.cells cs 252 (0, 0)) -> Has w' b (.cells cs 252 (0, 0))) : ∀ {t : Lm.Tr} {b : Nat}, Pk w t b -> Pk w' t b
 | .leaf x s, b, h => hk _ _ h
 | .node x y, b, h => by
  obtain ⟨p, q, h, hx, hy⟩ := h
  exact ⟨p, q, hk _ _ h, Pk.keep hk hx, Pk.keep hk hy⟩
theorem _root_.Go.Proofs.YtckbhciehmokdaaGreatDoor.Has.apart {w : World} {b c : Nat} {xs ys : Array Value} {t u : TypeId} {f g : Nat × Nat} (h : Has w b (.cells xs t f)) (k : Has w c (.cells ys u g)) (hne : t ≠ u) : b ≠ c := by
 rintro rfl
 have e : some (Obj.cells xs t f) = some (Obj.cells ys u g) := Eq.trans (Eq.symm h) k
 simp only [Option.some.injEq, Obj.cells.injEq] at e
 exact hne e.2.1
theorem Pk.only {w w' : World} {c : Nat} {ys : Array Value} {u : TypeId} {g : Nat × Nat} (k : Has w c (.cells ys u g)) (hne : 252 ≠ u) (ho : Only c w w') {t : Lm.Tr} {b : Nat} (h : Pk w t b) : Pk w' t b :=
 h.keep fun _ _ h => Has.only h ho (h.apart k hne)
def Pl (w : World) (s : Value) (ts : List Lm.Tr) : Prop :=
 ∃ a len cap, s = .slice a len cap /\ len = ts.length /\ len <= cap /\ len <= 1024 /\ (a = none -> len = 0 /\ cap = 0) /\
  (0 < len -> ∃ b off, a = some ⟨b, off, none⟩ /\ b < w.heap.size /\ ∀ i t, ts[i]? = some t -> ∃ p, w.cell? ⟨b, off + i, none⟩ = some (.pointer (some ⟨p, 0, none⟩)) /\ Pk w t p)
theorem Pl.later {w w' : World} {s : Value} {ts : List Lm.Tr} (h : Pl w s ts) (hb : Below w.heap.size w w') : Pl w' s ts := by
 obtain ⟨a, len, cap, rfl, h1, h2, h3, h4, h5⟩ := h
 refine ⟨a, len, cap, rfl, h1, h2, h3, h4, fun hl => ?_⟩
 obtain ⟨b, off, rfl, hlt, hc⟩ := h5 hl
 refine ⟨b, off, rfl, Nat.lt_of_lt_of_le hlt hb.size, fun i t hi => ?_⟩
 obtain ⟨p, hp, hk⟩ := hc i t hi
 exact ⟨p, by rw [hb.cell (p := ⟨b, off + i, none⟩) hlt]; exact hp, hk.later hb⟩
theorem Pl.shape {w : World} {s : Value} {ts : List Lm.Tr} (h : Pl w s ts) : ∃ a cap, s = .slice a ts.length cap /\ ts.length <= cap /\ ts.length <= 1024 := by
 obtain ⟨a, len, cap, rfl, rfl, h2, h3, _⟩ := h
 exact ⟨a, cap, rfl, h2, h3⟩
theorem Pl.nil (w : World) : Pl w (.slice none 0 0) [] := ⟨none, 0, 0, rfl, rfl, by omega, by omega, fun _ => ⟨rfl, rfl⟩, fun h => absurd h (by omega)⟩
theorem Pl.head {w : World} {a : Option Addr} {n cap : Nat} {t : Lm.Tr} {ts : List Lm.Tr} (h : Pl w (.slice a n cap) (t :: ts)) :
  ∃ b off p, a = some ⟨b, off, none⟩ /\ b < w.heap.size /\ w.cell? ⟨b, off, none⟩ = some (.pointer (some ⟨p, 0, none⟩)) /\ Pk w t p /\ n <= cap /\ (cap = 1 -> Pl w (.slice (some ⟨b, off, none⟩) ts.length (cap - 1)) ts) /\ Pl w (.slice (some ⟨b, off + 1, none⟩) ts.length (cap - 1)) ts := by
 obtain ⟨a', len, cap', e, h1, h2, h3, h4, h5⟩ := h
 cases e
 simp only [List.length_cons] at h1
 obtain ⟨b, off, rfl, hlt, hc⟩ := h5 (by omega)
 obtain ⟨p, hp, hk⟩ := hc 0 t rfl
 refine ⟨b, off, p, rfl, hlt, hp, hk, h2, fun e => ⟨_, ts.length, cap - 1, rfl, rfl, by omega, by omega, fun h => by simp at h, fun h0 => by omega⟩, _, ts.length, cap - 1, rfl, rfl, by omega, by omega, fun h => by simp at h, fun _ => ⟨b, off + 1, rfl, hlt, fun i u hi => ?_⟩⟩
 have := hc (i + 1) u (by rw [List.getElem?_cons_succ]; exact hi)
 rwa [show off + (i + 1) = off + 1 + i by omega] at this
theorem Pl.take {w : World} {a : Option Addr} {n cap : Nat} {ts : List Lm.Tr} (h : Pl w (.slice a n cap) ts) (m : Nat) (hm : m <= ts.length) : Pl w (.slice a m cap) (ts.take m) := by
 obtain ⟨a', len, cap', e, h1, h2, h3, h4, h5⟩ := h
 cases e
 refine ⟨a, m, cap, rfl, by rw [List.length_take]; omega, by omega, by omega, fun e => by have := h4 e; omega, fun h0 => ?_⟩
 obtain ⟨b, off, rfl, hlt, hc⟩ := h5 (by omega)
 refine ⟨b, off, rfl, hlt, fun i t hi => hc i t ?_⟩
 have := (List.getElem?_eq_some_iff.1 hi).1
 rw [List.length_take] at this
 rwa [List.getElem?_take_of_lt (by omega)] at hi
def vp (bs : List Nat) : List Value := bs.map fun b => Value.pointer (some ⟨b, 0, none⟩)
theorem vp_length (bs : List Nat) : (vp bs).length = bs.length := by simp [vp]
theorem vp_snoc (bs : List Nat) (b : Nat) : vp (bs ++ [b]) = vp bs ++ [.pointer (some ⟨b, 0, none⟩)] := by simp [vp]
theorem Tryz.infoPack : (Tryz.prog.info? 209).map (fun i => (i.zero, i.size, i.bytes)) = some (some (.pointer none), 1, 8) := by kernel_rfl
theorem run_app1 (t e : TypeId) (z : Value) (hu : Tryz.prog.underlying t = some (.slice e)) (hinf : (Tryz.prog.info? e).map (fun i => (i.zero, i.size, i.bytes)) = some (some z, 1, 8)) (hz : z.cells.size = 1)
  {w : World} {base n : Nat} {v : Value} {xs : List Value} (ty : TypeId) (hown : w.ownsRow base e 1 v n xs) (g : Nat) (x : Value) (hx : x.oneCell' = true) (hc : w.cell? ⟨g, 0, none⟩ = some x) (h1 : n + 1 <= 1000000) (hb : base <= w.heap.size) :
  ∃ v' w', (Builtin.append_ #[t, t] ty #[v, .slice (some ⟨g, 0, none⟩) 1 1]).run Tryz.prog w = .ok v' w' /\ w'.ownsRow base e 1 v' (n + 1) (xs ++ [x]) /\ w.grownBy w' v.ownBlock := by
 obtain ⟨i0, hi, hz0, hz1, hz2⟩ := info_parts hinf
 obtain ⟨v', w', h1, h2, h3, _⟩ := run_append_own (P := Tryz.prog) (w := w) base t ty e i0 z 1 8 hu hi hz0 hz1 hz2 hz (by decide) v n xs hown ⟨g, 0, none⟩ 1 1 [x] rfl
  (fun j u hj => by
   match j, hj with
   | 0, hj =>
    simp at hj
    subst hj
    simpa [Addr.add] using hc)
  (fun u hu => by simp at hu; subst hu; exact hx) (by unfold maxLen; omega) (by omega) hb
 exact ⟨v', w', h1, h2, h3⟩
theorem wpList_append_known {P : Program} {w : World} {ops : Array Oper} {rest : List Oper} {o : Oper} {a : Act} {Q : Exit -> Act -> World -> Prop} (hgd : o.guard = none) (s x : Operand) (t : TypeId)
  (hop : o.op = Op.call { callee := Callee.builtin Builtin.append, args := #[s, x], argTypes := #[t, t] }) (S X v : Value) (w' : World) (hs : a.eval s = S) (hx : a.eval x = X)
  (hrun : (Builtin.append_ #[t, t] o.type #[S, X]).run P w = .ok v w') (h : wpList P ops Q rest (a.put o.dst v) w') : wpList P ops Q (o :: rest) a w :=
 wpList_plain hgd fun K hK => by
  unfold Oper.wp
  simp [execOp, hop, resolve, invoke, builtin, hs, hx, hrun, Result.andThen]
  exact hK _ _ h
theorem step_append_known {ops : Array Oper} {o : Oper} {a : Act} {w : World} {K : Act -> World -> Prop} {Q : Exit -> Act -> World -> Prop} {E : Prop}
  (hg : o.guard = none) (s x : Operand) (t : TypeId) (hop : o.op = Op.call { callee := Callee.builtin Builtin.append, args := #[s, x], argTypes := #[t, t] })
  (S X v : Value) (w' : World) (hs : a.eval s = S) (hx : a.eval x = X) (hrun : (Builtin.append_ #[t, t] o.type #[S, X]).run Tryz.prog w = .ok v w') (hK : K (a.put o.dst v) w') :
  if Region.wanted o (yielded ops a.tmps) = true then Oper.wp Tryz.prog o a w K Q else E := by
 have hw : Region.wanted o (yielded ops a.tmps) = true := by simp [Region.wanted, hg]
 rw [if_pos hw]
 unfold Oper.wp
 simp [execOp, hop, resolve, invoke, builtin, hs, hx, hrun, Result.andThen]
 exact hK
theorem own_ne_type {w : World} {base n b : Nat} {v : Value} {e : TypeId} {xs : List Value} {cs : Array Value} {fr : Nat × Nat} {t : TypeId} (h : w.ownsRow base e 1 v n xs) (hb : Has w b (.cells cs t fr)) (ht : t ≠ e) : v.ownBlock ≠ some b := by
 rcases h.2 with ⟨rfl, _⟩ | ⟨g, cap, cur, rfl, _, hg, _⟩
 ·simp [Value.ownBlock]
 ·intro e'
  simp only [Value.ownBlock, Option.some.injEq] at e'
  subst e'
  have hb' : w.heap[g]? = some (.cells cs t fr) := hb
  rw [hg] at hb'
  simp only [Option.some.injEq, Obj.cells.injEq] at hb'
  exact ht hb'.2.1.symm
theorem own_slice {w : World} {base : Nat} {e : TypeId} {size : Nat} {v : Value} {n : Nat} {xs : List Value} (h : w.ownsRow base e size v n xs) : ∃ a cap, v = .slice a n cap := by
 rcases h.2 with ⟨rfl, rfl⟩ | ⟨g, cap, cur, rfl, _⟩
 ·exact ⟨_, _, rfl⟩
 ·exact ⟨_, _, rfl⟩
theorem own_stays {w w' : World} {base : Nat} {e : TypeId} {size : Nat} {v : Value} {n : Nat} {xs : List Value} (h : w.ownsRow base e size v n xs) (hb : Below w.heap.size w w') : w'.ownsRow base e size v n xs := by
 obtain ⟨h1, h2⟩ := h
 refine ⟨h1, ?_⟩
 rcases h2 with h | ⟨g, c, cur, h, hbg, hg, r⟩
 ·exact Or.inl h
 ·exact Or.inr ⟨g, c, cur, h, hbg, (hb.block g (lt_of_block hg)).trans hg, r⟩
theorem Pk.grown {w w' : World} {base n : Nat} {v : Value} {xs : List Value} (h : w.ownsRow base 209 1 v n xs) (hg : w.grownBy w' v.ownBlock) {t : Lm.Tr} {b : Nat} (hp : Pk w t b) : Pk w' t b :=
 hp.keep fun b _ hb => (hg.block b hb.lt (own_ne_type h hb (by decide)).symm).trans hb
end Go.Proofs.YtckbhciehmokdaaGreatDoor.Ls
namespace Go.Proofs.YtckbhciehmokdaaGreatDoor.Ls
set_option maxRecDepth 100000
set_option maxHeartbeats 8000000
open Go.RowKit
theorem sortStable_any (g cap n : Nat) (kf : Nat -> Nat) (p : Nat -> Prop) (d : Nat -> Nat) (w : World) (hr : Rw w g n d) (hn : n <= 288) (hris : St.Ris kf d n) (hp : ∀ i, i < n -> p (d i)) (hcmp : Cmps g kf p w) :
  Calls Tryz.prog 188 #[.slice (some ⟨g, 0, none⟩) n cap, .func (.func 189) #[] #[]] w (SortPost g n w (SortIs kf n d 0 n)) := by
 have HC := stable_any g cap n kf p d w hr hn hris hp hcmp
 clear hr hcmp hp hris
 go_enter Tryz.func188, Tryz.ntmps188
 go_wp2_with fail
 refine HC.mono ?_
 clear HC
 rintro e w2 ⟨rfl, d2, hr2, ho2, hs2⟩
 have Z1 := LH hr2
 have Z2 := LH ho2
 have Z3 := LH hs2
 clear hr2 ho2 hs2
 go_wp2_with fail
 go_end0
 exact ⟨rfl, _, Z1.out, Z2.out, Z3.out⟩
theorem insertion_nil (F : Value) (w : World) : Calls Tryz.prog 221 #[.slice none 0 0, .int .i64 0, .int .i64 0, F] w fun e w' => e = .returned (.tuple #[]) /\ w = w' := by
 go_enter Tryz.func221, Tryz.ntmps221
 go_wp2
 refine wp_loop_rounds 1 ?_
 rw [rounds_succ]
 go_wp2
 go_end0
 exact ⟨rfl, rfl⟩
theorem stable_nil (F : Value) (w : World) : Calls Tryz.prog 204 #[.slice none 0 0, .int .i64 0, F] w fun e w' => e = .returned (.tuple #[]) /\ w = w' := by
 go_enter Tryz.func204, Tryz.ntmps204
 go_wp2
 refine wp_loop_rounds 1 ?_
 rw [rounds_succ]
 go_wp2_with (go_at_call 221; refine (insertion_nil _ _).mono ?_; rintro e w' ⟨rfl, rfl⟩)
 refine wp_loop_rounds 1 ?_
 rw [rounds_succ]
 go_wp2
 go_end0
 exact ⟨rfl, rfl⟩
theorem sortStable_nil (F : Value) (w : World) : Calls Tryz.prog 188 #[.slice none 0 0, F] w fun e w' => e = .returned (.tuple #[]) /\ w = w' := by
 go_enter Tryz.func188, Tryz.ntmps188
 go_wp2_with (go_at_call 204; refine (stable_nil _ _).mono ?_; rintro e w' ⟨rfl, rfl⟩)
 go_end0
 exact ⟨rfl, rfl⟩
end Go.Proofs.YtckbhciehmokdaaGreatDoor.Ls
namespace Go.Proofs.YtckbhciehmokdaaGreatDoor.Ls
set_option maxRecDepth 100000
set_option maxHeartbeats 8000000
open Go.RowKit
def Nums (zs : List Int) : Prop := 0 < zs.length /\ zs.length <= 288 /\ ∀ i, i < zs.length -> 0 <= zs[i]?.getD 0 /\ zs[i]?.getD 0 <= 4294967295
instance (zs : List Int) : Decidable (Nums zs) := by unfold Nums; infer_instance
def Badn (z : Int) : Prop := z < 0 ∨ 4294967295 < z
theorem badn_yes (z : Int) (hz : Badn z) (w : World) : Calls Tryz.prog 187 #[.int .i64 z] w fun e w' => e = .returned (.bool true) /\ w = w' := by
 by_cases h : z < 0
 ·have h1 : decide (z < 0) = true := by simpa using h
  clear hz
  go_enter Tryz.func187, Tryz.ntmps187
  go_wp2
  go_ret
  exact ⟨rfl, rfl⟩
 ·have h1 : decide (z < 0) = false := by simpa using h
  have h2 : 4294967295 < z := hz.resolve_left h
  have h3 : decide (4294967295 < z) = true := by simpa using h2
  clear hz
  go_enter Tryz.func187, Tryz.ntmps187
  go_wp2
  go_ret
  exact ⟨rfl, rfl⟩
theorem badn_no (z : Int) (hz : ¬ Badn z) (w : World) : Calls Tryz.prog 187 #[.int .i64 z] w fun e w' => e = .returned (.bool false) /\ w = w' := by
 have g1 : ¬ z < 0 := fun h => hz (Or.inl h)
 have g2 : ¬ 4294967295 < z := fun h => hz (Or.inr h)
 have h1 : decide (z < 0) = false := by simpa using g1
 have h3 : decide (4294967295 < z) = false := by simpa using g2
 clear hz
 go_enter Tryz.func187, Tryz.ntmps187
 go_wp2
 go_ret
 exact ⟨rfl, rfl⟩
def IdxPostN (zs : List Int) (w : World) (e : Ending) (w' : World) : Prop := ∃ r : Int, e = .returned (.int .i64 r) /\ w = w' /\ ((0 <= r /\ ∃ i, i < zs.length /\ Badn (zs[i]?.getD 0)) ∨ (r = -1 /\ ∀ i, i < zs.length -> ¬ Badn (zs[i]?.getD 0)))
theorem indexn_any (zs : List Int) (s : Value) (w : World) (hz : Zl w s zs) : Calls Tryz.prog 156 #[s, .func (.func 187) #[] #[]] w (IdxPostN zs w) := by
 have HZ := LH hz
 obtain ⟨a, len, cap, rfl, h1, h2, h3, h4⟩ := hz
 have H1 := LH h1
 have H4 := LH h4
 clear h1 h3 h4 HZ
 go_enter Tryz.func156, Tryz.ntmps156
 go_wp2
 go_loop [8] (fun s8 => ∃ k : Nat, k <= len /\ s8 = .int .i64 k /\ Hid (∀ i, i < k -> ¬ Badn (zs[i]?.getD 0))) (fun s => len - (intOf s).toNat)
 case atStart => exact ⟨0, Nat.zero_le _, rfl, fun i hi => by omega⟩
 case round =>
  obtain ⟨k, hk, rfl, KB⟩ := hrel
  by_cases hlt : k < len
  ·obtain ⟨b, off, rfl, _, hc⟩ := H4.out (by omega)
   have hck := hc k hlt
   obtain ⟨z, hz⟩ : ∃ z, z = zs[k]?.getD 0 := ⟨_, rfl⟩
   rw [<- hz] at hck
   have HK := LH hz
   clear hz hc
   by_cases hb : Badn z
   ·have HB := LH hb
    clear hb
    go_wp2_with (go_at_call 187; refine (badn_yes z HB.out _).mono ?_; rintro e w' ⟨rfl, rfl⟩)
    go_ret
    exact ⟨_, rfl, rfl, Or.inl ⟨by omega, k, by have := H1.out; omega, by rw [<- HK.out]; exact HB.out⟩⟩
   ·have HB := LH hb
    clear hb
    go_wp2_with (go_at_call 187; refine (badn_no z HB.out _).mono ?_; rintro e w' ⟨rfl, rfl⟩)
    go_round
    case rel =>
     refine ⟨k + 1, by omega, by go_num, ?_⟩
     show ∀ i, i < k + 1 -> _
     intro i hi
     by_cases e : i = k
     ·rw [e, <- HK.out]; exact HB.out
     ·exact KB.out i (by omega)
    case measure => simp [intOf]; omega
  ·obtain rfl : k = len := by omega
   go_wp2
   go_ret
   exact ⟨_, rfl, rfl, Or.inr ⟨rfl, by rw [<- H1.out]; exact KB.out⟩⟩
theorem containsn_no (zs : List Int) (s : Value) (w : World) (hz : Zl w s zs) (hb : ∀ i, i < zs.length -> ¬ Badn (zs[i]?.getD 0)) : Calls Tryz.prog 114 #[s, .func (.func 187) #[] #[]] w fun e w' => e = .returned (.bool false) /\ w = w' := by
 have HC := indexn_any zs s w hz
 have HB := LH hb
 obtain ⟨a, len, cap, rfl, hl⟩ := hz.shape
 clear hz hb hl
 go_enter Tryz.func114, Tryz.ntmps114
 go_wp2_with fail
 refine HC.mono ?_
 clear HC
 rintro e w' ⟨r, rfl, rfl, hr⟩
 have h0 : r = -1 := by
  rcases hr with ⟨_, i, h1, h2⟩ | ⟨h, _⟩
  ·exact (HB.out i h1 h2).elim
  ·exact h
 subst h0
 clear hr
 go_wp2
 go_ret
 exact ⟨rfl, rfl⟩
theorem nums_iff (zs : List Int) (h1 : 0 < zs.length) (h2 : zs.length <= 288) : Nums zs ↔ ∀ i, i < zs.length -> ¬ Badn (zs[i]?.getD 0) := by
 unfold Nums Badn
 constructor
 ·rintro ⟨_, _, h⟩ i hi; have := h i hi; omega
 ·intro h; exact ⟨h1, h2, fun i hi => by have := h i hi; omega⟩
theorem aren_yes (zs : List Int) (s : Value) (w : World) (hz : Zl w s zs) (hv : Nums zs) : Calls Tryz.prog 152 #[s] w fun e w' => e = .returned (.bool true) /\ w = w' := by
 have HC := containsn_no zs s w hz ((nums_iff zs hv.1 hv.2.1).1 hv)
 obtain ⟨a, len, cap, rfl, hl⟩ := hz.shape
 have h1 : 0 < len := by have := hv.1; omega
 have h2 : len <= 288 := by have := hv.2.1; omega
 have h3 : ((len : Int) == 0) = false := by rw [beq_eq_false_iff_ne]; omega
 have h4 : decide (288 < (len : Int)) = false := by simp; omega
 clear hz hv hl
 go_enter Tryz.func152, Tryz.ntmps152
 go_wp2_with fail
 refine HC.mono ?_
 clear HC
 rintro e w' ⟨rfl, rfl⟩
 go_wp2
 go_ret
 exact ⟨rfl, rfl⟩
end Go.Proofs.YtckbhciehmokdaaGreatDoor.Ls
namespace Go.Proofs.YtckbhciehmokdaaGreatDoor.Ls
set_option maxRecDepth 100000
set_option maxHeartbeats 8000000
open Go.RowKit
namespace Lm
theorem lex_unique {α : Type} (R : α -> α -> Prop) (hR : ∀ x y, R x y -> ¬ R y x) : ∀ xs ys : List α, xs.Pairwise R -> ys.Pairwise R -> (∀ x, x ∈ xs ↔ x ∈ ys) -> xs = ys
 | [], ys, _, _, h => by
  cases ys with
  | nil => rfl
  | cons y ys => have := (h y).2 (by simp); cases this
 | x :: xs, [], _, _, h => by have := (h x).1 (by simp); cases this
 | x :: xs, y :: ys, h1, h2, h => by
  have a1 := List.pairwise_cons.1 h1
  have a2 := List.pairwise_cons.1 h2
  have hxy : x = y := by
   rcases List.mem_cons.1 ((h x).1 (by simp)) with e | e
   ·exact e
   ·rcases List.mem_cons.1 ((h y).2 (by simp)) with e2 | e2
    ·exact e2.symm
    ·exact (hR _ _ (a2.1 x e) (a1.1 y e2)).elim
  subst hxy
  rw [lex_unique R hR xs ys a1.2 a2.2 fun z => ?_]
  constructor
  ·intro hz
   rcases List.mem_cons.1 ((h z).1 (by simp [hz])) with e | e
   ·subst e; have := a1.1 z hz; exact (hR _ _ this this).elim
   ·exact e
  ·intro hz
   rcases List.mem_cons.1 ((h z).2 (by simp [hz])) with e | e
   ·subst e; have := a2.1 z hz; exact (hR _ _ this this).elim
   ·exact e
def Ah (p q : Nat × Nat) : Prop := p.1 < q.1 ∨ (p.1 = q.1 /\ p.2 < q.2)
theorem ah_one (p q : Nat × Nat) (h : Ah p q) : ¬ Ah q p := by unfold Ah at *; omega
theorem ins_ah (p : Nat × Nat) : ∀ S : List (Nat × Nat), S.Pairwise Ah -> (∀ q ∈ S, q.2 < p.2) -> (ins Prod.fst p S).Pairwise Ah
 | [], _, _ => List.pairwise_singleton _ _
 | q :: S, h, hp => by
  have h1 := List.pairwise_cons.1 h
  unfold ins
  by_cases hk : p.1 < q.1
  ·rw [if_pos hk]
   refine List.pairwise_cons.2 ⟨fun z hz => ?_, h⟩
   rcases List.mem_cons.1 hz with rfl | hz
   ·exact .inl hk
   ·have := h1.1 z hz; unfold Ah at *; omega
  ·rw [if_neg hk]
   refine List.pairwise_cons.2 ⟨fun z hz => ?_, ins_ah p S h1.2 fun z hz => hp z (by simp [hz])⟩
   rcases List.mem_cons.1 ((ins_perm Prod.fst p S).mem_iff.1 hz) with rfl | hz
   ·have := hp q (by simp); unfold Ah; omega
   ·exact h1.1 z hz
theorem fold_ah : ∀ (l S : List (Nat × Nat)), S.Pairwise Ah -> l.Pairwise (fun p q => p.2 < q.2) -> (∀ q ∈ S, ∀ p ∈ l, q.2 < p.2) -> (l.foldl (fun s x => ins Prod.fst x s) S).Pairwise Ah
 | [], _, h, _, _ => h
 | p :: l, S, h, hl, hp => by
  have h1 := List.pairwise_cons.1 hl
  rw [List.foldl_cons]
  refine fold_ah l _ (ins_ah p S h fun q hq => hp q hq p (by simp)) h1.2 fun q hq z hz => ?_
  rcases List.mem_cons.1 ((ins_perm Prod.fst p S).mem_iff.1 hq) with rfl | hq
  ·exact h1.1 z hz
  ·exact hp q hq z (by simp [hz])
theorem srt_ah (fs : List Nat) : (srt fs).Pairwise Ah := fold_ah _ [] List.Pairwise.nil (usd_rise fs fs.length) (fun q hq => by cases hq)
theorem sorted_is (fs : List Nat) (n : Nat) (hn : n = (usd fs fs.length).length) (pr : Nat -> Nat × Nat) (d d' : Nat -> Nat) (hd : ∀ i, i < n -> (usd fs fs.length)[i]? = some (pr (d i))) (hr : ∀ i j, i < j -> j < n -> d i < d j)
  (hs : St.Swaps 0 n d d') (h1 : St.Ris (fun b => (pr b).1) d' n) (h2 : St.Srt (fun b => (pr b).1) d' 0 n) : (List.range n).map (fun i => pr (d' i)) = srt fs := by
 refine lex_unique Ah ah_one _ _ ?_ (srt_ah fs) fun p => ?_
 ·rw [List.pairwise_map]
  refine List.pairwise_iff_getElem.2 fun i j hi hj hij => ?_
  rw [List.length_range] at hi hj
  rw [List.getElem_range, List.getElem_range]
  have g1 := h2 i j (Nat.zero_le _) hij hj
  by_cases e : (pr (d' i)).1 = (pr (d' j)).1
  ·have g2 := h1 i j hij hj e
   obtain ⟨a, _, ha, ea⟩ := hs.img i (Nat.zero_le _) hi
   obtain ⟨b, _, hb, eb⟩ := hs.img j (Nat.zero_le _) hj
   rw [ea, eb] at g2
   have hab : a < b := by
    refine Nat.lt_of_not_le fun hle => ?_
    rcases Nat.eq_or_lt_of_le hle with h | h
    ·rw [h] at g2; omega
    ·have := hr b a h ha; omega
   refine .inr ⟨e, ?_⟩
   rw [ea, eb]
   have u1 := List.getElem?_eq_some_iff.1 (hd a ha)
   have u2 := List.getElem?_eq_some_iff.1 (hd b hb)
   obtain ⟨l1, e1⟩ := u1
   obtain ⟨l2, e2⟩ := u2
   have := List.pairwise_iff_getElem.1 (usd_rise fs fs.length) a b l1 l2 hab
   rwa [e1, e2] at this
  ·refine .inl ?_
   show (pr (d' i)).1 < (pr (d' j)).1
   have : (pr (d' i)).1 <= (pr (d' j)).1 := g1
   omega
 ·rw [(srt_perm fs).mem_iff]
  constructor
  ·intro hp
   obtain ⟨i, hi, rfl⟩ := List.mem_map.1 hp
   obtain ⟨a, _, ha, ea⟩ := hs.img i (Nat.zero_le _) (List.mem_range.1 hi)
   rw [ea]
   exact List.mem_of_getElem? (hd a ha)
  ·intro hp
   obtain ⟨a, ha⟩ := List.getElem?_of_mem hp
   have hal : a < n := by rw [hn]; exact (List.getElem?_eq_some_iff.1 ha).1
   obtain ⟨b, _, hb, eb⟩ := hs.back a (Nat.zero_le _) hal
   rw [hd a hal] at ha
   injection ha with ha
   rw [<- ha, eb]
   exact List.mem_map.2 ⟨b, List.mem_range.2 hb, rfl⟩
end Lm
def Sg (fs : List Nat) (w wr : World) (v : Value) (k : Nat) : Prop :=
 ∃ bs : List Nat, bs.length = (Lm.usd fs k).length /\ wr.ownsRow w.heap.size 209 1 v bs.length (vp bs) /\ bs.Pairwise (· < ·) /\ (∀ (i b : Nat) (p : Nat × Nat), bs[i]? = some b -> (Lm.usd fs k)[i]? = some p -> Pk wr (.of p) b) /\ Below w.heap.size w wr
theorem Sg.start (fs : List Nat) (w : World) : Sg fs w w (.slice none 0 0) 0 := ⟨[], rfl, World.ownsRow_nil _ _ _ _, List.Pairwise.nil, fun i b p h => by simp at h, Below.refl _ _⟩
theorem Sg.skip {fs : List Nat} {w wr : World} {v : Value} {k : Nat} (h : Sg fs w wr v k) (h0 : fs[k]?.getD 0 = 0) : Sg fs w wr v (k + 1) := by
 have e : Lm.usd fs (k + 1) = Lm.usd fs k := by rw [Lm.usd, if_pos h0, List.append_nil]
 unfold Sg; rw [e]; exact h
theorem Sg.more {fs : List Nat} {w wr : World} {v : Value} {k x : Nat} (h : Sg fs w wr v k) (hx : x = fs[k]?.getD 0) (h0 : x ≠ 0) (hk : k <= 288) :
  ∃ v' w', (Builtin.append_ #[206, 206] 206 #[v, .slice (some ⟨wr.heap.size + 1, 0, none⟩) 1 1]).run Tryz.prog
   ((wr.alloc (.cells #[.int .i64 (x : Int), .int .i64 (k : Int), .pointer none, .pointer none] 252)).alloc (.cells #[.pointer (some ⟨wr.heap.size, 0, none⟩)] 209)) = .ok v' w' /\ Sg fs w w' v' (k + 1) := by
 obtain ⟨bs, hl, hown, hri, hpk, hb⟩ := h
 have hle := Lm.usd_length fs k
 have hown2 := (hown.alloc (.cells #[.int .i64 (x : Int), .int .i64 (k : Int), .pointer none, .pointer none] 252)).alloc (.cells #[.pointer (some ⟨wr.heap.size, 0, none⟩)] 209)
 have hc := (Has.new (wr.alloc (.cells #[.int .i64 (x : Int), .int .i64 (k : Int), .pointer none, .pointer none] 252)) (.cells #[.pointer (some ⟨wr.heap.size, 0, none⟩)] 209)).one.1
 rw [World.size_alloc] at hc
 obtain ⟨v', w', hrun, ho, hg⟩ := run_app1 206 209 (.pointer none) Tryz.underlying206 Tryz.infoPack rfl 206 hown2 (wr.heap.size + 1) _ rfl hc (by omega) (by have := hb.size; simp; omega)
 refine ⟨v', w', hrun, bs ++ [wr.heap.size], ?_, ?_, ?_, ?_, ?_⟩
 ·rw [Lm.usd, <- hx, if_neg h0, List.length_append, List.length_append, hl]; rfl
 ·rw [vp_snoc, List.length_append]; exact ho
 ·refine List.pairwise_append.2 ⟨hri, List.pairwise_singleton _ _, fun a ha b hb' => ?_⟩
  rw [List.mem_singleton] at hb'
  subst hb'
  obtain ⟨i, hi⟩ := List.getElem?_of_mem ha
  have hil := (List.getElem?_eq_some_iff.1 hi).1
  exact (hpk i a _ hi (List.getElem?_eq_getElem (by omega))).lt
 ·intro i b p hi hp
  rw [Lm.usd, <- hx, if_neg h0] at hp
  by_cases hlt : i < bs.length
  ·rw [List.getElem?_append_left hlt] at hi
   rw [List.getElem?_append_left (by omega)] at hp
   exact Pk.grown hown2 hg ((hpk i b p hi hp).later (below2 wr _ _))
  ·have e : i = bs.length := by
    have := (List.getElem?_eq_some_iff.1 hi).1
    rw [List.length_append, List.length_singleton] at this; omega
   subst e
   rw [List.getElem?_append_right (Nat.le_refl _), Nat.sub_self] at hi
   rw [hl, List.getElem?_append_right (Nat.le_refl _), Nat.sub_self] at hp
   simp only [List.getElem?_cons_zero, Option.some.injEq] at hi hp
   subst hi hp
   refine Pk.grown hown2 hg ?_
   exact (Has.new wr _).alloc _
 ·have hbs := hb.size
  exact (hb.trans ((below2 wr _ _).mono hbs)).grown hg (by simp; omega) (fun q e => (World.ownsRow.lt hown q e).1)
def prOf (w : World) (b : Nat) : Nat × Nat := ((intOf ((w.cell? ⟨b, 0, none⟩).getD undef)).toNat, (intOf ((w.cell? ⟨b, 1, none⟩).getD undef)).toNat)
theorem prOf_is {w : World} {p : Nat × Nat} {b : Nat} (h : Pk w (.of p) b) : prOf w b = p := by
 have h' : Has w b (.cells #[.int .i64 (p.1 : Int), .int .i64 (p.2 : Int), .pointer none, .pointer none] 252 (0, 0)) := h
 unfold prOf
 rw [h'.cell, h'.cell]
 simp [intOf]
theorem Sg.sort {fs : List Nat} {w wr : World} {g cap : Nat} {n : Nat} (h : Sg fs w wr (.slice (some ⟨g, 0, none⟩) n cap) fs.length) (h288 : fs.length <= 288) :
  Calls Tryz.prog 188 #[.slice (some ⟨g, 0, none⟩) n cap, .func (.func 189) #[] #[]] wr fun e w' =>
   e = .returned (.tuple #[]) /\ Pl w' (.slice (some ⟨g, 0, none⟩) n cap) (Lm.sgl fs) /\ Below w.heap.size w w' := by
 obtain ⟨bs, hl, hown, hri, hpk, hb⟩ := h
 have hul := Lm.usd_length fs fs.length
 obtain ⟨g', cap', cur, e, hbase, hg, hle, _, _, _⟩ : ∃ g' cap' cur, Value.slice (some ⟨g, 0, none⟩) n cap = .slice (some ⟨g', 0, none⟩) bs.length cap' /\ w.heap.size <= g' /\ wr.heap[g']? = some (.cells cur 209 (0, 0)) /\ bs.length <= cap' /\ cap' <= maxLen /\ cur.size = cap' * 1 /\ cur.toList.take (bs.length * 1) = vp bs := by
  rcases hown.2 with ⟨h, _⟩ | h
  ·cases h
  ·exact h
 cases e
 have hrw : Rw wr g bs.length (fun i => bs[i]?.getD 0) := by
  refine ⟨lt_of_block hg, fun i hi => ?_, fun i _ => hown.frozenAt i⟩
  rw [hown.cellAt i (by omega)]
  simp [vp, List.getElem?_eq_getElem hi]
 have hpr : ∀ i, i < bs.length -> (Lm.usd fs fs.length)[i]? = some (prOf wr (bs[i]?.getD 0)) := by
  intro i hi
  have e1 := List.getElem?_eq_getElem hi
  have e2 : (Lm.usd fs fs.length)[i]? = some ((Lm.usd fs fs.length)[i]'(by omega)) := List.getElem?_eq_getElem (by omega)
  rw [e1, Option.getD_some, prOf_is (hpk i _ _ e1 e2), e2]
 have hrise : ∀ i j, i < j -> j < bs.length -> bs[i]?.getD 0 < bs[j]?.getD 0 := by
  intro i j hij hj
  rw [List.getElem?_eq_getElem hj, List.getElem?_eq_getElem (by omega : i < bs.length)]
  exact List.pairwise_iff_getElem.1 hri i j (by omega) hj hij
 have hpkb : ∀ i, i < bs.length -> ∃ p, Pk wr (.of p) (bs[i]?.getD 0) := by
  intro i hi
  have e1 := List.getElem?_eq_getElem hi
  have e2 : (Lm.usd fs fs.length)[i]? = some ((Lm.usd fs fs.length)[i]'(by omega)) := List.getElem?_eq_getElem (by omega)
  rw [e1, Option.getD_some]
  exact ⟨_, hpk i _ _ e1 e2⟩
 have hG : Has wr g (.cells cur 209 (0, 0)) := hg
 have hcm : Cmps g (fun b => (prOf wr b).1) (fun b => ∃ p, Pk wr (.of p) b) wr := by
  rintro w' x y ho ⟨p, hp⟩ ⟨q, hq⟩
  show Calls _ _ _ _ (CmpPost w' (cmpv (prOf wr x).1 (prOf wr y).1))
  rw [prOf_is hp, prOf_is hq]
  exact cmp_any x y p.1 q.1 w' (Pk.only hG (by decide) ho hp).wt (Pk.only hG (by decide) ho hq).wt
 refine (sortStable_any g cap bs.length _ _ _ wr hrw (by omega) (fun i j h1 h2 _ => hrise i j h1 h2) hpkb hcm).mono ?_
 rintro e w' ⟨rfl, d', hr', ho, hs⟩
 have hs1 := Lm.sorted_is fs bs.length hl (prOf wr) _ d' hpr hrise hs.1 hs.2.1 hs.2.2
 have hsz := ho.size
 have hglt := hG.lt
 refine ⟨rfl, ⟨_, _, _, rfl, ?_, hle, by omega, fun h => by simp at h, fun _ => ⟨g, 0, rfl, by omega, fun i t hi => ?_⟩⟩, ho.below hb hbase hb.size⟩
 ·rw [Lm.sgl_length, <- hs1]; simp
 ·unfold Lm.sgl at hi
  rw [<- hs1, List.map_map, List.getElem?_map] at hi
  have hil : i < bs.length := by
   by_cases h : i < bs.length
   ·exact h
   ·rw [List.getElem?_eq_none (by simp; omega)] at hi; cases hi
  rw [List.getElem?_eq_getElem (by simpa using hil), List.getElem_range] at hi
  simp only [Option.map_some, Option.some.injEq, Function.comp_def] at hi
  subst hi
  refine ⟨d' i, by rw [Nat.zero_add]; exact hr'.cell i hil, ?_⟩
  obtain ⟨p, hp⟩ := hs.1.all (Nat.le_refl _) (fun b => ∃ p, Pk wr (.of p) b) hpkb i hil
  rw [prOf_is hp]
  exact Pk.only hG (by decide) ho hp
theorem lused_any (zs : List Int) (s : Value) (w : World) (hz : Zl w s zs) (hv : Nums zs) : Calls Tryz.prog 153 #[s] w fun e w' => ∃ v, e = .returned v /\ Pl w' v (Lm.sgl (nat zs)) /\ Below w.heap.size w w' := by
 have HV := LH hv
 obtain ⟨a, len, cap, rfl, h1, h2, h3, h4⟩ := hz
 have h288 : len <= 288 := by have := hv.2.1; omega
 have H1 := LH h1
 have H4 := LH h4
 clear h1 h3 h4 hv
 go_enter Tryz.func153, Tryz.ntmps153
 go_wp2
 go_loopw [3, 8] (fun s3 s8 wr => ∃ (k : Nat) (v : Value), k <= len /\ v = s3 /\ s8 = .int .i64 k /\ Hid (Sg (nat zs) w wr v k)) (fun _ s _ => len - (intOf s).toNat)
 case atStart => exact ⟨0, _, Nat.zero_le _, rfl, rfl, Sg.start _ _⟩
 case round =>
  obtain ⟨k, v, hk, rfl, rfl, KS⟩ := hrel
  by_cases hlt : k < len
  ·obtain ⟨b, off, rfl, hbw, hc⟩ := H4.out (by omega)
   have hB : Below w.heap.size w wr := by obtain ⟨_, _, _, _, _, h⟩ := KS.out; exact h
   have hck := (hB.cell (p := ⟨b, off + k, none⟩) hbw).trans (hc k hlt)
   have hzk : zs[k]?.getD 0 = (((nat zs)[k]?.getD 0 : Nat) : Int) := by rw [nat_get]; have := HV.out.2.2 k (by have := H1.out; omega); omega
   rw [hzk] at hck
   obtain ⟨x, hx⟩ : ∃ x, x = (nat zs)[k]?.getD 0 := ⟨_, rfl⟩
   rw [<- hx] at hck
   have HX := LH hx
   clear hc hzk hx hB
   by_cases h0 : x = 0
   ·have ST := LH (KS.out.skip (by rw [<- HX.out]; exact h0))
    have hne : ((x : Int) != 0) = false := by simp [h0]
    clear KS h0 HX
    go_wp2
    go_roundw
    case rel => exact ⟨k + 1, _, by omega, rfl, by go_num, ST⟩
    case measure => simp [intOf]; omega
   ·obtain ⟨v', w', hrun, hsg⟩ := KS.out.more HX.out h0 (by omega)
    have HR := LH hrun
    have ST := LH hsg
    have hne : ((x : Int) != 0) = true := by rw [bne_iff_ne]; omega
    clear KS h0 HX hrun hsg
    go_wp2_with (at_builtin; refine wpList_append_known rfl _ _ 206 rfl _ _ _ _ rfl rfl HR.out ?_)
    go_roundw
    case rel => exact ⟨k + 1, _, by omega, rfl, by go_num, ST⟩
    case measure => simp [intOf]; omega
  ·obtain rfl : k = len := by omega
   have hlen : k = (nat zs).length := by rw [nat_length]; exact H1.out
   have KS2 : Hid (Sg (nat zs) w wr v (nat zs).length) := by show Sg _ _ _ _ _; rw [<- hlen]; exact KS.out
   have HL : Hid ((nat zs).length <= 288) := by show _ <= _; omega
   clear KS hlen
   have hsh : v = .slice none 0 0 ∨ ∃ g n cap, v = .slice (some ⟨g, 0, none⟩) n cap := by
    obtain ⟨bs, _, ho, _⟩ := KS2.out
    rcases ho.2 with ⟨h, _⟩ | ⟨g, cap, _, h, _⟩
    ·exact Or.inl h
    ·exact Or.inr ⟨g, _, cap, h⟩
   rcases hsh with rfl | ⟨g, n, cap2, rfl⟩
   ·go_wp2_with (go_at_call 188; refine (sortStable_nil _ _).mono ?_; rintro e w' ⟨rfl, rfl⟩)
    go_ret
    obtain ⟨bs, hl, ho, _, _, hB⟩ := KS2.out
    have hb0 : bs.length = 0 := by
     rcases ho.2 with ⟨_, h⟩ | ⟨g, cap, _, h, _⟩
     ·exact h
     ·cases h
    have hs0 : Lm.sgl (nat zs) = [] := List.eq_nil_of_length_eq_zero (by rw [Lm.sgl_length, Lm.srt_length]; omega)
    exact ⟨_, rfl, by rw [hs0]; exact Pl.nil _, hB⟩
   ·have HC := KS2.out.sort HL.out
    clear KS2
    go_wp2_with fail
    refine HC.mono ?_
    clear HC
    rintro e w2 ⟨rfl, hp, hb⟩
    have Z1 := LH hp
    have Z2 := LH hb
    clear hp hb
    go_wp2
    go_ret
    exact ⟨_, rfl, Z1.out, Z2.out⟩
end Go.Proofs.YtckbhciehmokdaaGreatDoor.Ls
namespace Go.Proofs.YtckbhciehmokdaaGreatDoor.Ls
set_option maxRecDepth 100000
set_option maxHeartbeats 8000000
open Go.RowKit Go.Shelf
attribute [local go_sem] Oper.semAt_some
theorem with_any (p q : Nat) (x y : Lm.Tr) (w : World) (hp : Pk w x p) (hq : Pk w y q) (hw : x.wt + y.wt <= 1125899906842624) :
  Calls Tryz.prog 206 #[.pointer (some ⟨p, 0, none⟩), .pointer (some ⟨q, 0, none⟩)] w fun e w' => ∃ r, e = .returned (.pointer (some ⟨r, 0, none⟩)) /\ Pk w' (.node x y) r /\ Below w.heap.size w w' := by
 have HP := LH hp
 have HQ := LH hq
 have c1 := hp.wt
 have c2 := hq.wt
 obtain ⟨u, hu⟩ : ∃ u, u = x.wt := ⟨_, rfl⟩
 obtain ⟨v, hv⟩ : ∃ v, v = y.wt := ⟨_, rfl⟩
 rw [<- hu] at c1
 rw [<- hv] at c2
 rw [<- hu, <- hv] at hw
 have HU := LH hu
 have HV := LH hv
 clear hp hq hu hv
 go_enter Tryz.func206, Tryz.ntmps206
 go_wp2
 go_region
 go_wp2
 go_ret
 rw [HU.out, HV.out]
 have hb := (below1 w (.cells #[.int .i64 ((x.wt : Int) + (y.wt : Int)), .int .i64 0, .pointer (some ⟨p, 0, none⟩), .pointer (some ⟨q, 0, none⟩)] 252)).drew
 refine ⟨_, rfl, ⟨p, q, ?_, HP.out.later hb, HQ.out.later hb⟩, hb⟩
 have h := Has.new w (.cells #[.int .i64 ((x.wt : Int) + (y.wt : Int)), .int .i64 0, .pointer (some ⟨p, 0, none⟩), .pointer (some ⟨q, 0, none⟩)] 252)
 rw [show ((x.wt + y.wt : Nat) : Int) = (x.wt : Int) + (y.wt : Int) by omega]
 exact h
theorem below_of_drew {B : Nat} {w w' : World} (h : Below B w.drew w') : Below B w w' := ⟨h.os, h.tape, h.output, h.size, h.block⟩
def Two (w : World) (x : (Nat × Nat) × (Lm.Tr × Lm.Tr)) : Prop := Pk w x.2.1 x.1.1 /\ Pk w x.2.2 x.1.2 /\ x.2.1.wt + x.2.2.wt <= 1125899906842624
abbrev Tw (w : World) := { x : (Nat × Nat) × (Lm.Tr × Lm.Tr) // Two w x }
def twTo (ts : List Lm.Tr) : Nat -> List (Lm.Tr × Lm.Tr)
 | 0 => []
 | j + 1 => twTo ts j ++ [(ts[2 * j]?.getD (.leaf 0 0), ts[2 * j + 1]?.getD (.leaf 0 0))]
theorem twTo_length (ts : List Lm.Tr) (j : Nat) : (twTo ts j).length = j := by
 induction j with
 | zero => rfl
 | succ j ih => simp only [twTo, List.length_append, ih]; rfl
def TellsTw {w : World} (ts : List Lm.Tr) (j : Nat) (pre : List (Tw w)) : Prop := pre.map (fun x => x.1.2) = twTo ts j
theorem tellsTw_length {w : World} {ts : List Lm.Tr} {j : Nat} {pre : List (Tw w)} (h : TellsTw ts j pre) : pre.length = j := by
 have := congrArg List.length h
 rwa [List.length_map, twTo_length] at this
theorem twos_in (n : Nat) (sv : Value) (a : Option Addr) (len cap : Nat) (hsv : sv = .slice a len cap) (w : World) :
  CallsIn Fence.wide n Tryz.prog 205 #[sv] w fun e w' => e = .returned (.func (.func 223) #[] #[.pointer (some ⟨w.heap.size, 0, none⟩)]) /\ w' = w.alloc (.cells #[sv] 206) := by
 subst hsv
 refine callsIn_of_wp Tryz.func205 rfl trivial ?_ rfl
 simp only [Tryz.ntmps205, List.size_toArray, List.length_cons, List.length_nil, Nat.reduceAdd, Nat.reduceSub, Array.replicate_succ, Array.replicate_zero, List.push_toArray, List.append_toArray, List.nil_append, List.cons_append]
 gi_wp2
 go_ret
 exact ⟨rfl, rfl⟩
def KeepB (n₀ Bs : Nat) (A B : World) : Prop := Below n₀ A B /\ ∀ v, Boxed A Bs 206 v -> Boxed B Bs 206 v
theorem KeepB.refl (n₀ Bs : Nat) (W : World) : KeepB n₀ Bs W W := ⟨Below.refl _ _, fun _ h => h⟩
theorem keepB_t {n₀ Bs : Nat} {A B C : World} (h : KeepB n₀ Bs A B) (k : KeepB n₀ Bs B C) : KeepB n₀ Bs A C := ⟨h.1.trans k.1, fun v hv => k.2 v (h.2 v hv)⟩
theorem keepB_b {n₀ Bs : Nat} {w : World} (hn : n₀ <= w.heap.size) (W : World) (l : Nat) (_o o' : Obj) (hl : w.heap.size <= l) (h : W.heap[l]? = some _o) (hc : _o.isCells = false) (_ : _o.isWalk = false) : KeepB n₀ Bs W (W.putObj l o') := by
 refine ⟨(Below.refl n₀ W).grown (grownBy_putObj' W l o') (by have := (Array.getElem?_eq_some_iff.1 h).1; omega) (fun k e => by cases e; omega), fun v hv => ?_⟩
 have hne : Bs ≠ l := by rintro rfl; rw [show W.heap[Bs]? = _ from hv] at h; cases h; cases hc
 show (W.putObj l o').heap[Bs]? = _
 rw [World.putObj_heap_other (by omega)]; exact hv
theorem twos1_in (n : Nat) (hn : 2 <= n) (l Bs : Nat) (w : World) (sv : Value) (ts : List Lm.Tr) (hpos : 0 < ts.length) (hP : Pl w sv ts) (hwt : ∀ (i : Nat) (t : Lm.Tr), ts[i]? = some t -> t.wt <= 281474976710656) (J Jx : List (Tw w) -> World -> Prop)
  (hY : ∀ pre x W, J pre W -> pre.length < ts.length / 2 -> YieldAt Fence.wide (n - 1) Tryz.prog l #[.pointer (some ⟨x.1.1.1, 0, none⟩), .pointer (some ⟨x.1.1.2, 0, none⟩)] W fun e W' =>
   (e = .returned (.bool true) /\ J (pre ++ [x]) W' /\ KeepB w.heap.size Bs W W') ∨ (e = .returned (.bool false) /\ Jx (pre ++ [x]) W'))
  (W : World) (hJ : AbidesFrom W.heap.size J) (hW : Below w.heap.size w W) (hBs : Boxed W Bs 206 sv) (h0 : J [] W) :
  CallsIn Fence.wide n Tryz.prog 223 #[.func (.yield l) #[] #[], .pointer (some ⟨Bs, 0, none⟩)] W fun e W' => (∃ v, e = .returned v) /\
   ((∃ ys, TellsTw ts (ts.length / 2) ys /\ J ys W') ∨ (∃ pre, True /\ Jx pre W')) := by
 obtain ⟨a, len, cap, rfl, hlen, _, h1024, _, hc⟩ := hP
 obtain ⟨b, off, rfl, hb, hcc⟩ := hc (by omega)
 have HC := LH hcc
 have HW := LH hwt
 obtain ⟨m, hm⟩ : ∃ m, m = ts.length / 2 := ⟨_, rfl⟩
 rw [<- hm] at hY ⊢
 have hm1 : 2 * m <= len := by omega
 have hm2 : len < 2 * m + 2 := by omega
 have HL := LH hlen
 clear hc hcc hwt hlen hm
 refine callsIn_of_wp Tryz.func223 rfl trivial ?_ rfl
 simp only [Tryz.ntmps223, List.size_toArray, List.length_cons, List.length_nil, Nat.reduceAdd, Nat.reduceSub, Array.replicate_succ, Array.replicate_zero, List.push_toArray, List.append_toArray, List.nil_append, List.cons_append]
 gi_wp2
 gi_loopw [3] (fun i wr => ∃ (k c : Nat) (pre : List (Tw w)), k <= m /\ i = .int .i64 (c : Int) /\ Hid (c = 2 * k + 1) /\ Hid (TellsTw ts k pre) /\ J pre wr /\ Hid (KeepB w.heap.size Bs W wr))
  (fun i _ => 2 * m + 2 - (intOf i).toNat)
 case atStart => exact ⟨0, 1, [], Nat.zero_le _, rfl, rfl, rfl, h0, KeepB.refl _ _ _⟩
 case round =>
  obtain ⟨k, c, pre, hk, rfl, KC, KT, hJs, hnx⟩ := hrel
  have hkn := tellsTw_length KT.out
  have cB : wr.cell? ⟨Bs, 0, none⟩ = some (.slice (some ⟨b, off, none⟩) len cap) := (hnx.out.2 _ hBs).cell
  by_cases hlt : k < m
  ·have i1 : 2 * k < ts.length := by have := HL.out; omega
   have i2 : 2 * k + 1 < ts.length := by have := HL.out; omega
   obtain ⟨tx, htx⟩ : ∃ t, ts[2 * k]? = some t := ⟨_, List.getElem?_eq_getElem i1⟩
   obtain ⟨ty, hty⟩ : ∃ t, ts[2 * k + 1]? = some t := ⟨_, List.getElem?_eq_getElem i2⟩
   obtain ⟨p, hp1, hp2⟩ := HC.out (2 * k) tx htx
   obtain ⟨q, hq1, hq2⟩ := HC.out (2 * k + 1) ty hty
   have w1 := HW.out (2 * k) tx htx
   have w2 := HW.out (2 * k + 1) ty hty
   have g1 : wr.cell? ⟨b, off + 2 * k, none⟩ = some (.pointer (some ⟨p, 0, none⟩)) := ((hW.trans hnx.out.1).cell (p := ⟨b, off + 2 * k, none⟩) hb).trans hp1
   have g2 : wr.cell? ⟨b, off + (2 * k + 1), none⟩ = some (.pointer (some ⟨q, 0, none⟩)) := ((hW.trans hnx.out.1).cell (p := ⟨b, off + (2 * k + 1), none⟩) hb).trans hq1
   have hx : Two w ((p, q), (tx, ty)) := ⟨hp2, hq2, by show tx.wt + ty.wt <= _; omega⟩
   have KT2 : Hid (TellsTw ts (k + 1) (pre ++ [(⟨((p, q), (tx, ty)), hx⟩ : Tw w)])) := by
    show List.map _ _ = _
    rw [List.map_append, show List.map (fun x => x.1.2) pre = _ from KT.out]
    simp only [twTo, List.map_cons, List.map_nil, htx, hty, Option.getD_some]
   obtain ⟨fn, tmps, assign, body, hy, hR0⟩ := hY pre ⟨_, hx⟩ wr.drew (hJ _ _ wr.drew none hJs ⟨rfl, rfl, rfl, Nat.le_refl _, fun _ _ _ => rfl⟩ (fun r e => by cases e)) (by omega)
   dsimp only at hy
   have hR := hR0.mono (R' := fun e W' => ∃ bb, e = Ending.returned (.bool bb) /\ Hid ((bb = true /\ J (pre ++ [⟨((p, q), tx, ty), hx⟩]) W' /\ KeepB w.heap.size Bs wr.drew W') ∨ (bb = false /\ Jx (pre ++ [⟨((p, q), tx, ty), hx⟩]) W'))) (by
    rintro e W3 (⟨rfl, hJ3, hk3⟩ | ⟨rfl, hJx3⟩)
    ·exact ⟨true, rfl, .inl ⟨rfl, hJ3, hk3⟩⟩
    ·exact ⟨false, rfl, .inr ⟨rfl, hJx3⟩⟩)
   clear hR0
   obtain ⟨d, hd⟩ : ∃ d, d = 2 * k := ⟨_, rfl⟩
   have hcd : c = d + 1 := by have := KC.out; omega
   have hcd2 : (c : Int) - 1 = (d : Int) := by omega
   have hcl : c < len := by omega
   have hdl : d < len := by omega
   rw [<- hd] at g1
   rw [show 2 * k + 1 = c from KC.out.symm] at g2
   have HD := LH hd
   clear hcd w1 w2 hd hp1 hp2 hq1 hq2 htx hty i1 i2 hkn
   have hmx : Tryz.prog.follows .mixedOrders = true := by kernel_rfl
   have hd1 : 1 <= n - 1 := by omega
   have hn1 : 1 <= n := by omega
   gi_wp2
   have hwd : IntKind.i64.wrap (d : Int) = (d : Int) := IntWalk.i64_in _ (by omega)
   gi_region_with_o (refine hR.mono ?_; rintro e W3 ⟨bb, rfl, hbb⟩)
   all_goals
    rcases hbb.out with ⟨rfl, hJ3, hk3⟩ | ⟨rfl, hJx3⟩
    ·clear hbb hwd hcd2
     gi_wp2
     go_roundw
     case rel => exact ⟨k + 1, c + 2, _, by omega, by go_num, by show _ = _; have := KC.out; omega, KT2, hJ3, keepB_t hnx.out ⟨below_of_drew hk3.1, fun v hv => hk3.2 v hv⟩⟩
     case measure => simp [intOf]; omega
    ·clear hbb hwd hcd2
     gi_wp2
     refine bodyPost_ret (results_none rfl _ _ _) rfl ?_
     exact ⟨⟨_, rfl⟩, .inr ⟨_, trivial, hJx3⟩⟩
  ·obtain rfl : k = m := by omega
   have hcl : ¬ c < len := by have := KC.out; omega
   gi_wp2
   go_end0
   exact ⟨⟨_, rfl⟩, .inl ⟨pre, KT.out, hJs⟩⟩
theorem twos_stops (n : Nat) (hn : 2 <= n) (Bs : Nat) (w w1 : World) (sv : Value) (ts : List Lm.Tr) (hpos : 0 < ts.length) (hP : Pl w sv ts) (hwt : ∀ (i : Nat) (t : Lm.Tr), ts[i]? = some t -> t.wt <= 281474976710656) (hB : Below w.heap.size w w1) (hc : Boxed w1 Bs 206 sv) :
  SeqStopsK Fence.wide n Tryz.prog 223 #[.pointer (some ⟨Bs, 0, none⟩)] (fun x : Tw w => #[Value.pointer (some ⟨x.1.1.1, 0, none⟩), Value.pointer (some ⟨x.1.1.2, 0, none⟩)]) (KeepB w.heap.size Bs) (fun ys => TellsTw ts (ts.length / 2) ys) (fun _ => True) (ts.length / 2) w1 := fun l J Jx W hW hJ _ hY h0 =>
 twos1_in n hn l Bs w sv ts hpos hP hwt J Jx hY W hJ (hB.trans (hW.mono hB.size)) ((hW.block Bs hc.lt).trans hc) h0
end Go.Proofs.YtckbhciehmokdaaGreatDoor.Ls
namespace Go.Proofs.YtckbhciehmokdaaGreatDoor
set_option maxRecDepth 100000
set_option maxHeartbeats 8000000
open Go.RowKit
theorem rhread_any (s : Value) (l : List Bool) (N p : Nat) (w : World) (hs : Sl w s (Bs.pack l)) (hl : Hid (N = l.length)) (hN : N <= 2251799813685248) (hp : p <= N) :
  Calls Tryz.prog 125 #[.agg #[s, .int .i64 (N : Int)], .int .i64 (p : Int)] w (RReadPost w (Hd.head l p)) := by
 have hl' : N = l.length := hl.out
 by_cases h0 : N < p + 5
 ·rw [Hd.head_e1 (by omega)]; exact rhead_e1 s l N p w hs hl hN hp h0
 ·by_cases h1 : N < p + 10
  ·rw [Hd.head_e1 (by omega)]; exact rhead_e2 s l N p w hs hl hN (by omega) h1
  ·by_cases h3 : 286 < Hd.num l p 5 + 257 ∨ 30 < Hd.num l (p + 5) 5 + 1
   ·rw [Hd.head_e3 (by omega) rfl rfl h3]
    by_cases h2 : 286 < Hd.num l p 5 + 257
    ·exact rhead_e3a s l N p w hs hl hN (by omega) h2
    ·exact rhead_e3b s l N p w hs hl hN (by omega) ⟨h2, h3.resolve_left h2⟩
   ·by_cases h4 : N < p + 14
    ·rw [Hd.head_e4 (by omega) rfl rfl h3 (by omega)]; exact rhead_e4 s l N p w hs hl hN (by omega) h3 h4
    ·by_cases h5 : N < p + 14 + 3 * (Hd.num l (p + 10) 4 + 4)
     ·rw [Hd.head_e5 (by omega) rfl rfl rfl h3 (by omega)]; exact rhead_e5 s l N p w hs hl hN (by omega) h3 h5
     ·by_cases h6 : newE (Hd.zz (Hd.cl l (p + 14) (Hd.num l (p + 10) 4 + 4))) = 0
      ·rw [Hd.head_run (by omega) rfl rfl rfl rfl h3 (by omega) h6]; exact rhead_run s l N p w hs hl hN (by omega) h3 (by omega) h6
      ·rw [Hd.head_e6 (by omega) rfl rfl rfl rfl h3 (by omega) h6]; exact rhead_e6 s l N p w hs hl hN (by omega) h3 (by omega) h6
end Go.Proofs.YtckbhciehmokdaaGreatDoor
namespace Go.Proofs.YtckbhciehmokdaaGreatDoor
set_option maxRecDepth 100000
set_option maxHeartbeats 8000000
open Go.RowKit
theorem find_big (a : Option Addr) (n c : Nat) (d : Int) (w : World) (hn : 65536 < n) : Calls Tryz.prog 46 #[.slice a n c, .int .i64 d] w fun e w' => e = .returned (.tuple #[.slice none 0 0, .int .i64 3]) /\ w = w' := by
 have h1 : (65536 : Int) < (n : Int) := by omega
 clear hn
 go_enter Tryz.func46, Tryz.ntmps46
 go_wp2
 refine bodyPost_ret (v := .tuple #[.slice none 0 0, .int .i64 3]) (by simp [results, Tryz.results46, go_sem]) rfl ?_
 exact ⟨rfl, rfl⟩
theorem find_arg (a : Option Addr) (n c : Nat) (d : Int) (w : World) (hn : n <= 65536) (hd : d < 1 ∨ 4096 < d) : Calls Tryz.prog 46 #[.slice a n c, .int .i64 d] w fun e w' => e = .returned (.tuple #[.slice none 0 0, .int .i64 2]) /\ w = w' := by
 have h1 : ¬ (65536 : Int) < (n : Int) := by omega
 clear hn
 by_cases h2 : d < 1
 ·clear hd
  go_enter Tryz.func46, Tryz.ntmps46
  go_wp2
  refine bodyPost_ret (v := .tuple #[.slice none 0 0, .int .i64 2]) (by simp [results, Tryz.results46, go_sem]) rfl ?_
  exact ⟨rfl, rfl⟩
 ·have h3 : 4096 < d := by omega
  clear hd
  go_enter Tryz.func46, Tryz.ntmps46
  go_wp2
  refine bodyPost_ret (v := .tuple #[.slice none 0 0, .int .i64 2]) (by simp [results, Tryz.results46, go_sem]) rfl ?_
  exact ⟨rfl, rfl⟩
theorem encode_bad (a : Option Addr) (n c : Nat) (d : Int) (w : World) (h : 65536 < n ∨ d < 1 ∨ 4096 < d) : Calls Tryz.prog 21 #[.slice a n c, .int .i64 d] w fun e w' => e = .returned (.tuple #[.slice none 0 0, .int .i64 (if 65536 < n then 3 else 2)]) /\ w = w' := by
 by_cases hn : 65536 < n
 ·have H := LH (find_big a n c d w hn)
  rw [if_pos hn]
  clear h hn
  go_enter Tryz.func21, Tryz.ntmps21
  go_wp2_with fail
  refine H.out.mono ?_
  rintro e w1 ⟨rfl, rfl⟩
  go_wp2_with fail
  refine bodyPost_ret (v := .tuple #[.slice none 0 0, .int .i64 3]) (by simp [results, Tryz.results21, go_sem]) rfl ?_
  exact ⟨rfl, rfl⟩
 ·have H := LH (find_arg a n c d w (by omega) (by omega))
  rw [if_neg hn]
  clear h hn
  go_enter Tryz.func21, Tryz.ntmps21
  go_wp2_with fail
  refine H.out.mono ?_
  rintro e w1 ⟨rfl, rfl⟩
  go_wp2_with fail
  refine bodyPost_ret (v := .tuple #[.slice none 0 0, .int .i64 2]) (by simp [results, Tryz.results21, go_sem]) rfl ?_
  exact ⟨rfl, rfl⟩
end Go.Proofs.YtckbhciehmokdaaGreatDoor
