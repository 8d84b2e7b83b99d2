import Derived.Test.YtckbhciehmokdaaGreatDoorIstr2
import Derived.Test.YtckbhciehmokdaaGreatDoorDtal
import Derived.Test.YtckbhciehmokdaaGreatDoorIcop
import Derived.Test.YtckbhciehmokdaaGreatDoorIcau
import Derived.Test.YtckbhciehmokdaaGreatDoorItake
import Derived.Test.YtckbhciehmokdaaGreatDoorIex
import Derived.Test.YtckbhciehmokdaaGreatDoorCarg
import Derived.Test.YtckbhciehmokdaaGreatDoorIfix
import Derived.Test.YtckbhciehmokdaaGreatDoorHrget
import Derived.Laws.BytesArg
import Derived.Lib.SlBytesConst
import Derived.Laws.BytesString
import Derived.LaidMore
import Derived.Laws.BitsAllLaws
namespace Go.Proofs.YtckbhciehmokdaaGreatDoor
set_option maxRecDepth 100000
set_option maxHeartbeats 8000000
section
open Go.RowKit
namespace Dp
open If (Tk)
def lits (ts : List Tk) : List Nat := (ts.filter fun t => decide (t.len = 0)).map Tk.lit
def lens (ts : List Tk) : List Nat := (ts.filter fun t => decide (t.len ≠ 0)).map fun t => 257 + Sy.lk t.len
def dists (ts : List Tk) : List Nat := (ts.filter fun t => decide (t.len ≠ 0)).map fun t => Sy.dk t.far
theorem lits_byte (ts : List Tk) (t : Tk) (h : t.len = 0) : lits (ts ++ [t]) = lits ts ++ [t.lit] /\ lens (ts ++ [t]) = lens ts /\ dists (ts ++ [t]) = dists ts := by
 simp [lits,lens,dists,List.filter_append,h]
theorem lits_copy (ts : List Tk) (t : Tk) (h : t.len ≠ 0) : lits (ts ++ [t]) = lits ts /\ lens (ts ++ [t]) = lens ts ++ [257 + Sy.lk t.len] /\ dists (ts ++ [t]) = dists ts ++ [Sy.dk t.far] := by
 simp [lits,lens,dists,List.filter_append,h]
theorem lits_len (ts : List Tk) : (lits ts).length <= ts.length /\ (lens ts).length <= ts.length /\ (dists ts).length <= ts.length := by
 simp only [lits,lens,dists,List.length_map]
 exact ⟨List.length_filter_le ..,List.length_filter_le ..,List.length_filter_le ..⟩
def litF (ts : List Tk) : List Nat := (List.range 286).map fun i => ([lits ts,lens ts,[256]] : List (List Nat)).flatten.count i
def distF (ts : List Tk) : List Nat := (List.range 30).map fun i => ([dists ts] : List (List Nat)).flatten.count i
theorem litF_length (ts : List Tk) : (litF ts).length = 286 := by simp [litF]
theorem distF_length (ts : List Tk) : (distF ts).length = 30 := by simp [distF]
theorem litF_get (ts : List Tk) (i : Nat) (h : i < 286) : (litF ts)[i]?.getD 0 = ([lits ts,lens ts,[256]] : List (List Nat)).flatten.count i := by simp [litF,h]
theorem distF_get (ts : List Tk) (i : Nat) (h : i < 30) : (distF ts)[i]?.getD 0 = ([dists ts] : List (List Nat)).flatten.count i := by simp [distF,h]
theorem litF_le (ts : List Tk) (i : Nat) : (litF ts)[i]?.getD 0 <= 2 * ts.length + 1 := by
 rcases Nat.lt_or_ge i 286 with h | h
 ·rw [litF_get ts i h]
  have h1 := List.count_le_length (a := i) (l := ([lits ts,lens ts,[256]] : List (List Nat)).flatten)
  have h2 := lits_len ts
  simp only [List.flatten_cons,List.flatten_nil,List.length_append,List.length_cons,List.length_nil,List.append_nil] at h1 ⊢
  omega
 ·rw [List.getElem?_eq_none (by rw [litF_length]; exact h)]; exact Nat.zero_le _
theorem distF_le (ts : List Tk) (i : Nat) : (distF ts)[i]?.getD 0 <= ts.length := by
 rcases Nat.lt_or_ge i 30 with h | h
 ·rw [distF_get ts i h]
  have h1 := List.count_le_length (a := i) (l := ([dists ts] : List (List Nat)).flatten)
  have h2 := lits_len ts
  simp only [List.flatten_cons,List.flatten_nil,List.append_nil] at h1 ⊢
  omega
 ·rw [List.getElem?_eq_none (by rw [distF_length]; exact h)]; exact Nat.zero_le _
theorem lits_lt (ts : List Tk) (h : ∀ t ∈ ts,If.Byt t ∨ If.Cop t) : (∀ x ∈ lits ts,x < 286) /\ (∀ x ∈ lens ts,x < 286) /\ (∀ x ∈ dists ts,x < 30) := by
 refine ⟨fun x hx => ?_,fun x hx => ?_,fun x hx => ?_⟩
 ·simp only [lits,List.mem_map,List.mem_filter,decide_eq_true_eq] at hx
  obtain ⟨t,⟨h1,h2⟩,rfl⟩ := hx
  rcases h t h1 with hb | hc
  ·have := hb.2; omega
  ·have := hc.1; omega
 ·simp only [lens,List.mem_map,List.mem_filter,decide_eq_true_eq] at hx
  obtain ⟨t,⟨h1,h2⟩,rfl⟩ := hx
  rcases h t h1 with hb | ⟨_,c1,c2,c3,c4⟩
  ·exact absurd hb.1 h2
  ·have := (Sy.lk_has t.len c1).1; omega
 ·simp only [dists,List.mem_map,List.mem_filter,decide_eq_true_eq] at hx
  obtain ⟨t,⟨h1,h2⟩,rfl⟩ := hx
  rcases h t h1 with hb | ⟨_,c1,c2,c3,c4⟩
  ·exact absurd hb.1 h2
  ·have := (Sy.dk_has t.far c3).1; omega
theorem fits_has (ts : List Tk) (h : ∀ t ∈ ts,If.Byt t ∨ If.Cop t) : (∀ t ∈ ts,If.Has1 (best (litF ts)) (best (distF ts)) t) /\ Hf.ln (best (litF ts)) 256 ≠ 0 := by
 have hl := lits_lt ts h
 have use : ∀ x,x < 286 -> x ∈ ([lits ts,lens ts,[256]] : List (List Nat)).flatten -> Hf.ln (best (litF ts)) x ≠ 0 := fun x hx hm => by
  rw [best_used _ (by rw [litF_length]; omega),litF_get ts x hx]
  have := List.count_pos_iff.2 hm
  omega
 have used : ∀ x,x < 30 -> x ∈ ([dists ts] : List (List Nat)).flatten -> Hf.ln (best (distF ts)) x ≠ 0 := fun x hx hm => by
  rw [best_used _ (by rw [distF_length]; omega),distF_get ts x hx]
  have := List.count_pos_iff.2 hm
  omega
 refine ⟨fun t ht => ?_,use 256 (by omega) (by simp)⟩
 unfold If.Has1
 by_cases h0 : t.len = 0
 ·rw [if_pos h0]
  have hm : t.lit ∈ lits ts := by simp only [lits,List.mem_map,List.mem_filter,decide_eq_true_eq]; exact ⟨t,⟨ht,h0⟩,rfl⟩
  exact use _ (hl.1 _ hm) (by simp [hm])
 ·rw [if_neg h0]
  have hm : 257 + Sy.lk t.len ∈ lens ts := by simp only [lens,List.mem_map,List.mem_filter,decide_eq_true_eq]; exact ⟨t,⟨ht,h0⟩,rfl⟩
  have hd : Sy.dk t.far ∈ dists ts := by simp only [dists,List.mem_map,List.mem_filter,decide_eq_true_eq]; exact ⟨t,⟨ht,h0⟩,rfl⟩
  exact ⟨use _ (hl.2.1 _ hm) (by simp [hm]),used _ (hl.2.2 _ hd) (by simp [hd])⟩
end Dp
theorem alloc_size' (w : World) (o : Obj) : (w.alloc o).heap.size = w.heap.size + 1 := by simp
theorem rz_zl {w : World} {g n : Nat} {d : Nat -> Nat} {fs : List Nat} (h : Rz w g n d) (hn : fs.length = n) (hn2 : n <= 1000) (hd : ∀ i,i < n -> fs[i]?.getD 0 = d i) : Zl w (.slice (some ⟨g,0,none⟩) n n) (Hd.zz fs) := by
 refine ⟨_,n,n,rfl,by rw [Hd.zz_length]; exact hn.symm,by omega,(fun e => by cases e),fun _ => ⟨g,0,rfl,h.lt,fun i hi => ?_⟩⟩
 rw [Hd.zz_get,hd i hi,Nat.zero_add]
 exact h.cell i hi
abbrev Blk256 : Obj := .cells #[.int .i64 256] 3
theorem lss3 {base : Nat} {w : World} {u v : Value} {xs ys : List Nat} (h1 : Own base w u xs) (h2 : Own base w v ys) (l1 : xs.length <= 1000000) (l2 : ys.length <= 1000000) :
  Lss ((w.alloc (Blk256)).alloc (.cells #[u,v,.slice (some ⟨w.heap.size,0,none⟩) 1 1] 57)) (w.heap.size + 1) [xs,ys,[256]] := by
 have hb : Below w.heap.size w ((w.alloc (Blk256)).alloc (.cells #[u,v,.slice (some ⟨w.heap.size,0,none⟩) 1 1] 57)) := (below1 w _).trans ((below1 _ _).mono (by simp))
 have hx := Has.new (w.alloc (Blk256)) (.cells #[u,v,.slice (some ⟨w.heap.size,0,none⟩) 1 1] 57)
 rw [alloc_size'] at hx
 obtain ⟨a1,c1,rfl⟩ := h1.shape
 obtain ⟨a2,c2,rfl⟩ := h2.shape
 have z1 := (h1.keep hb).zl (by omega)
 have z2 := (h2.keep hb).zl (by omega)
 have h3 := (Has.new w (Blk256)).one.1
 have h4 := ((below1 (w.alloc (Blk256)) (.cells #[.slice a1 xs.length c1,.slice a2 ys.length c2,.slice (some ⟨w.heap.size,0,none⟩) 1 1] 57)).cell (p := ⟨w.heap.size,0,none⟩) (by simp)).trans h3
 obtain ⟨k0,k1,k2⟩ := tk_cells hx
 intro j xs' hj
 match j,hj with
 | 0,hj => cases hj; exact ⟨_,_,_,k0,z1⟩
 | 1,hj => cases hj; exact ⟨_,_,_,k1,z2⟩
 | 2,hj =>
  cases hj
  refine ⟨_,_,_,k2,_,1,1,rfl,rfl,by omega,(fun e => by cases e),fun _ => ⟨w.heap.size,0,rfl,by simp; omega,fun i hi => ?_⟩⟩
  obtain rfl : i = 0 := by omega
  exact h4
 | j + 3,hj => simp at hj
theorem lss1 {base : Nat} {w : World} {u : Value} {xs : List Nat} (h1 : Own base w u xs) (l1 : xs.length <= 1000000) : Lss (w.alloc (.cells #[u] 57)) w.heap.size [xs] := by
 obtain ⟨a1,c1,rfl⟩ := h1.shape
 have z1 := (h1.alloc' (.cells #[.slice a1 xs.length c1] 57)).zl (by omega)
 have k0 := (Has.new w (.cells #[.slice a1 xs.length c1] 57)).one.1
 intro j xs' hj
 match j,hj with
 | 0,hj => cases hj; exact ⟨_,_,_,k0,z1⟩
 | j + 1,hj => simp at hj
theorem tally_zl (n b cap m : Nat) (L : List (List Nat)) (w : World) (hL : Lss w b L) (hm : m = L.length) (hb : b < w.heap.size) (hx : ∀ xs ∈ L,∀ x ∈ xs,x < n) (hn : n <= 300) (h9 : L.flatten.length <= 1000000) (hm9 : m <= 1000) (fs : List Nat) (hfl : fs.length = n) (hfs : ∀ i,i < n -> fs[i]?.getD 0 = L.flatten.count i) :
  Calls Tryz.prog 74 #[.int .i64 (n : Int),.slice (some ⟨b,0,none⟩) m cap] w fun e w' => ∃ g,e = .returned (.slice (some ⟨g,0,none⟩) n n) /\ Zl w' (.slice (some ⟨g,0,none⟩) n n) (Hd.zz fs) /\ Below w.heap.size w w' := by
 refine (tally_ok n b cap m L w hL hm hb hx hn h9 hm9).mono ?_
 rintro e w' ⟨rfl,h1,h2⟩
 exact ⟨_,rfl,rz_zl h1 hfl (by omega) hfs,h2⟩
def FitPost (w : World) (ts : List If.Tk) (e : Ending) (w' : World) : Prop :=
 ∃ L D,e = .returned (.tuple #[.slice (some ⟨L,0,none⟩) (Dp.best (Dp.litF ts)).length 286,.slice (some ⟨D,0,none⟩) (Dp.best (Dp.distF ts)).length 30,.int .i64 0]) /\ w.heap.size <= L /\ L < w'.heap.size /\ w.heap.size <= D /\ D < w'.heap.size /\
  (∀ i,i < (Dp.best (Dp.litF ts)).length -> w'.cell? ⟨L,i,none⟩ = some (.int .i64 ((Hf.ln (Dp.best (Dp.litF ts)) i : Nat) : Int))) /\
  (∀ i,i < (Dp.best (Dp.distF ts)).length -> w'.cell? ⟨D,i,none⟩ = some (.int .i64 ((Hf.ln (Dp.best (Dp.distF ts)) i : Nat) : Int))) /\ Below w.heap.size w w'
theorem fitting_ok (a : Option Addr) (n c : Nat) (ts : List If.Tk) (w : World) (hs : Tks w (.slice a n c) ts) (hn : n = ts.length) (hv : ∀ t ∈ ts,If.Byt t ∨ If.Cop t) (hl : n <= 65536) :
  Calls Tryz.prog 41 #[.slice a n c] w (FitPost w ts) := by
 have HS := LH hs
 have HN := LH hn
 have HV := LH hv
 have T0 := LH (Tri.start w)
 clear hs hn hv
 go_enter Tryz.func41,Tryz.ntmps41
 go_wp2_with fail
 go_loopw [5,6,7,17] (fun s5 s6 s7 s17 wr => ∃ i : Nat,i <= n /\ s17 = .int .i64 (i : Int) /\ Hid (Tri w wr s6 s7 s5 (Dp.lens (ts.take i)) (Dp.dists (ts.take i)) (Dp.lits (ts.take i)))) (fun _ _ _ s _ => n - (intOf s).toNat)
 case atStart => exact ⟨0,Nat.zero_le _,rfl,by show Tri _ _ _ _ _ _ _ _; simpa [Dp.lens,Dp.dists,Dp.lits] using T0.out⟩
 case round =>
  obtain ⟨i,hi,rfl,KT⟩ := hrel
  by_cases hlt : i < n
  ·have hit : i < ts.length := by rw [<- HN.out]; exact hlt
   obtain ⟨t,ht⟩ : ∃ t,ts[i]? = some t := ⟨ts[i],List.getElem?_eq_getElem hit⟩
   obtain ⟨hnn,b,off,rfl,hbl,k0,k1,k2⟩ := (HS.out.later (KT.out.l)).at' i t ht
   clear hnn
   have hval := HV.out t (List.mem_of_getElem? ht)
   have hsn : ts.take (i + 1) = ts.take i ++ [t] := by rw [List.take_add_one,ht,Option.toList]
   have hlk := Dp.lits_len (ts.take i)
   have htl : (ts.take i).length <= n := by rw [List.length_take]; omega
   by_cases h0 : t.len = 0
   ·obtain ⟨e1,e2,e3⟩ := Dp.lits_byte (ts.take i) t h0
    rw [<- hsn] at e1 e2 e3
    obtain ⟨len,far,x⟩ := t
    simp only at h0
    subst h0
    have k0' : wr.cell? ⟨b,off + i * 3,none⟩ = some (.int .i64 0) := k0
    have KB := LH (KT.out.alloc (.cells #[.int .i64 0,.int .i64 (far : Int),.int .u8 (x : Int)] 48))
    obtain ⟨f0,f1,f2⟩ := tk_cells (Has.new wr (.cells #[.int .i64 0,.int .i64 (far : Int),.int .u8 (x : Int)] 48))
    simp only at k1 k2 e1 e2 e3
    clear k0
    have hx8 : x < 256 := by
     rcases hval with hb | hc
     ·exact hb.2.2
     ·have := hc.2.1; simp at this
    obtain ⟨v5,w5,hrun,ht5⟩ := KB.out.rot.rot.one x (by omega) 57
    rw [alloc_size'] at hrun
    have HRUN := LH hrun
    have H5 : Hid (Tri w w5 u6 u7 v5 (Dp.lens (ts.take (i + 1))) (Dp.dists (ts.take (i + 1))) (Dp.lits (ts.take (i + 1)))) := by
     show Tri _ _ _ _ _ _ _ _
     rw [e1,e2,e3]
     exact ht5.rot
    clear KT KB hrun ht5 hval hsn hlk htl hit ht hbl e1 e2 e3
    go_wp2_with (at_builtin; (refine wpList_append_is rfl (.tmp 24) (.tmp 28) 57 rfl _ _ _ _ rfl rfl HRUN.out ?_))
    go_roundw
    case rel => first | exact ⟨i + 1,by omega,by go_num,H5⟩ | ((repeat apply Exists.intro); exact ⟨⟨i + 1,by omega,by go_num,H5⟩,rfl⟩)
    case measure => simp [intOf]; omega
   ·obtain ⟨e1,e2,e3⟩ := Dp.lits_copy (ts.take i) t h0
    rw [<- hsn] at e1 e2 e3
    have hcop : If.Cop t := by
     rcases hval with hb | hc
     ·exact absurd hb.1 h0
     ·exact hc
    obtain ⟨len,far,x⟩ := t
    obtain ⟨hx0,q1,q2,q3,q4⟩ := hcop
    simp only at q1 q2 q3 q4 h0 e1 e2 e3 k0 k1 k2
    have HBX := LH (Has.new wr (.cells #[.int .i64 (len : Int),.int .i64 (far : Int),.int .u8 (x : Int)] 48))
    have KB := LH (KT.out.alloc (.cells #[.int .i64 (len : Int),.int .i64 (far : Int),.int .u8 (x : Int)] 48))
    obtain ⟨f0,f1,f2⟩ := tk_cells HBX.out
    have g1 := (Sy.lk_has len q1).1
    have g2 := (Sy.dk_has far q3).1
    obtain ⟨sl,hsl⟩ : ∃ sl,sl = Sy.lk len := ⟨_,rfl⟩
    obtain ⟨sd,hsd⟩ : ∃ sd,sd = Sy.dk far := ⟨_,rfl⟩
    have gl := LH (fun W => len_go len q1 q2 W)
    have gd := LH (fun W => dist_go far q3 q4 W)
    rw [<- hsl] at gl e2 g1
    rw [<- hsd] at gd e3 g2
    obtain ⟨vl,hvl⟩ : ∃ vl,vl = len - Sy.at' Sy.lf sl := ⟨_,rfl⟩
    obtain ⟨vd,hvd⟩ : ∃ vd,vd = far - Sy.at' Sy.df sd := ⟨_,rfl⟩
    rw [<- hvl] at gl
    rw [<- hvd] at gd
    have E := LH (And.intro e1 (And.intro e2 e3))
    have HLK := LH (And.intro hlk htl)
    clear KT hx0 hval hsn hlk htl hit ht hbl e1 e2 e3 hsl hsd hvl hvd q2 q4
    go_wp2_with fail
    refine (gl.out _).mono ?_
    rintro e w4 ⟨rfl,hb4⟩
    have KC := LH (KB.out.later hb4)
    obtain ⟨f3,f4,f5⟩ := tk_cells (HBX.out.later hb4)
    clear KB hb4 f0 f1 f2 gl
    go_wp2_with fail
    refine (gd.out _).mono ?_
    rintro e w5 ⟨rfl,hb5⟩
    have KD := LH (KC.out.later hb5)
    clear KC hb5 f3 f4 f5 gd
    obtain ⟨v6,v7,w6,w7,hr1,hr2,ht⟩ := KD.out.apbq (257 + sl) sd (by have := HLK.out; omega) (by have := HLK.out; omega) 57
    have ev : (((257 + sl : Nat) : Nat) : Int) = 257 + (sl : Int) := by omega
    unfold OneN at hr1 hr2
    rw [ev] at hr1
    have HR1 := LH hr1
    have HR2 := LH hr2
    have H5 : Hid (Tri w w7 v6 v7 u5 (Dp.lens (ts.take (i + 1))) (Dp.dists (ts.take (i + 1))) (Dp.lits (ts.take (i + 1)))) := by
     show Tri _ _ _ _ _ _ _ _
     rw [E.out.1,E.out.2.1,E.out.2.2]
     exact ht
    clear KD hr1 hr2 ht ev E HLK
    go_wp2_with (at_builtin; (first | (refine wpList_append_is rfl (.tmp 50) (.tmp 52) 57 rfl _ _ _ _ rfl rfl HR1.out ?_) | (refine wpList_append_is rfl (.tmp 54) (.tmp 56) 57 rfl _ _ _ _ rfl rfl HR2.out ?_)))
    go_roundw
    case rel => first | exact ⟨i + 1,by omega,by go_num,H5⟩ | ((repeat apply Exists.intro); exact ⟨⟨i + 1,by omega,by go_num,H5⟩,rfl⟩)
    case measure => simp [intOf]; omega
  ·obtain rfl : i = n := by omega
   have htk : ts.take i = ts := List.take_of_length_le (by rw [<- HN.out]; exact Nat.le_refl _)
   rw [htk] at KT
   have hlt := Dp.lits_lt ts HV.out
   have hll := Dp.lits_len ts
   have hnl : ts.length <= 65536 := by have := HN.out; omega
   have FL := LH (Dp.litF_length ts)
   have FD := LH (Dp.distF_length ts)
   obtain ⟨a5,c5,e5⟩ := KT.out.c.shape
   obtain ⟨a6,c6,e6⟩ := KT.out.a.shape
   obtain ⟨a7,c7,e7⟩ := KT.out.b.shape
   obtain ⟨m5,hm5⟩ : ∃ m5,m5 = (Dp.lits ts).length := ⟨_,rfl⟩
   obtain ⟨m6,hm6⟩ : ∃ m6,m6 = (Dp.lens ts).length := ⟨_,rfl⟩
   obtain ⟨m7,hm7⟩ : ∃ m7,m7 = (Dp.dists ts).length := ⟨_,rfl⟩
   rw [<- hm5] at e5
   rw [<- hm6] at e6
   rw [<- hm7] at e7
   subst e5 e6 e7
   clear hm5 hm6 hm7
   have hlss := lss3 KT.out.c KT.out.a (by omega) (by omega)
   have TL := LH (tally_zl 286 (wr.heap.size + 1) 3 3 [Dp.lits ts,Dp.lens ts,[256]] _ hlss rfl (by simp) (by
     intro xs hxs x hx
     simp only [List.mem_cons,List.not_mem_nil,or_false] at hxs
     rcases hxs with rfl | rfl | rfl
     ·exact hlt.1 x hx
     ·exact hlt.2.1 x hx
     ·simp at hx; omega) (by omega) (by simp; omega) (by omega) (Dp.litF ts) (Dp.litF_length ts) (fun i hi => Dp.litF_get ts i hi))
   have hb2 : Below wr.heap.size wr ((wr.alloc Blk256).alloc (.cells #[.slice a5 m5 c5,.slice a6 m6 c6,.slice (some ⟨wr.heap.size,0,none⟩) 1 1] 57)) := (below1 wr _).trans ((below1 _ _).mono (by simp))
   have K2 := LH (KT.out.later hb2)
   unfold Blk256 at TL K2
   have BL := LH (fun (W : World) (g : Nat) (hz : Zl W (.slice (some ⟨g,0,none⟩) 286 286) (Hd.zz (Dp.litF ts))) => best_ok (Dp.litF ts) _ W hz (by rw [FL.out]; omega) (by rw [FL.out]; omega) (fun i => by have := Dp.litF_le ts i; omega))
   have BD := LH (fun (W : World) (g : Nat) (hz : Zl W (.slice (some ⟨g,0,none⟩) 30 30) (Hd.zz (Dp.distF ts))) => best_ok (Dp.distF ts) _ W hz (by rw [FD.out]; omega) (by rw [FD.out]; omega) (fun i => by have := Dp.distF_le ts i; omega))
   have HTD := LH (fun (W : World) (hlss : Lss (W.alloc (.cells #[.slice a7 m7 c7] 57)) W.heap.size [Dp.dists ts]) => tally_zl 30 W.heap.size 1 1 [Dp.dists ts] _ hlss rfl (by simp) (by
     intro xs hxs x hx
     simp only [List.mem_cons,List.not_mem_nil,or_false] at hxs
     subst hxs
     exact hlt.2.2 x hx) (by omega) (by simp; omega) (by omega) (Dp.distF ts) (Dp.distF_length ts) (fun i hi => Dp.distF_get ts i hi))
   have HD7 := LH (And.intro hll.2.2 hnl)
   clear KT htk hlt hll hnl hlss hb2
   go_wp2_with fail
   refine (show Calls Tryz.prog 74 #[.int .i64 286,_] _ _ from TL.out).mono ?_
   clear TL
   rintro e w1 ⟨g1,rfl,hr1,hb1⟩
   have K3 := LH (K2.out.later hb1)
   have Z1 := LH hr1
   clear hr1 hb1 K2
   go_wp2_with fail
   refine (BL.out _ _ Z1.out).mono ?_
   rintro e w2 ⟨L,rfl,hL1,hL2,hL3,hb2⟩
   have K4 := LH (K3.out.later hb2)
   have XL := LH (And.intro (Nat.le_trans K3.out.l.size hL1) (And.intro hL2 hL3))
   have hlss := lss1 K4.out.b (by have := HD7.out; omega)
   have TD := LH (HTD.out w2 hlss)
   have K5 := LH (K4.out.later (below1 w2 (.cells #[.slice a7 m7 c7] 57)))
   have HB5 := LH (below1 w2 (.cells #[.slice a7 m7 c7] 57))
   clear BL Z1 HTD K3 K4 hL1 hL2 hL3 hb2 hlss
   go_wp2_with fail
   refine (show Calls Tryz.prog 74 #[.int .i64 30,_] _ _ from TD.out).mono ?_
   clear TD
   rintro e w3 ⟨g3,rfl,hr1,hb1⟩
   have K6 := LH (K5.out.later hb1)
   have HB6 := LH (HB5.out.trans (hb1.mono HB5.out.size))
   have Z1 := LH hr1
   clear hr1 hb1 K5 HB5
   go_wp2_with fail
   refine (BD.out _ _ Z1.out).mono ?_
   rintro e w4 ⟨D,rfl,hD1,hD2,hD3,hb2⟩
   have HB7 := HB6.out.trans (hb2.mono HB6.out.size)
   have hfin : FitPost w ts (.returned (.tuple #[.slice (some ⟨L,0,none⟩) (Dp.best (Dp.litF ts)).length 286,.slice (some ⟨D,0,none⟩) (Dp.best (Dp.distF ts)).length 30,.int .i64 0])) w4 :=
    ⟨L,D,rfl,XL.out.1,Nat.lt_of_lt_of_le XL.out.2.1 HB7.size,Nat.le_trans K6.out.l.size hD1,hD2,fun i hi => (HB7.cell (p := ⟨L,i,none⟩) XL.out.2.1).trans (XL.out.2.2 i hi),hD3,(K6.out.later hb2).l⟩
   have HFIN := LH hfin
   clear BD Z1 hD1 hD2 hD3 hb2 HB7 HB6 K6 hfin XL
   rw [FL.out,FD.out]
   go_wp2_with fail
   exact bodyPost_ret (v := .tuple #[.slice (some ⟨L,0,none⟩) (Dp.best (Dp.litF ts)).length 286,.slice (some ⟨D,0,none⟩) (Dp.best (Dp.distF ts)).length 30,.int .i64 0]) (by simp [results,Tryz.results41,go_sem]) rfl HFIN.out
end
section
open Go.RowKit
def RdLaid (W wx : World) (s8 : Value) (l : List Bool) (N most : Nat) : Prop :=
 ∃ R g m : Nat,s8 = .pointer (some ⟨R,0,none⟩) /\ W.heap.size <= R /\ W.heap.size <= g /\ R ≠ g /\ Has wx R (rdi (.slice (some ⟨g,0,none⟩) m m) N most (.slice none 0 0) ⟨0,[],.pointer none,.pointer none⟩) /\ Has wx g (bytesObj (Bs.pack l)) /\ m = (l.length + 7) / 8 /\ Below W.heap.size W wx
theorem RdLaid.one {W0 w1 : World} {g m N most : Nat} {l : List Bool} (hN : N = l.length) (hmm : m = (l.length + 7) / 8) (hgg : W0.drew.heap.size <= g) (hx : Has w1 g (bytesObj (Bs.pack l))) (hb : Below W0.drew.heap.size W0.drew w1) :
  RdLaid W0 (w1.alloc (.cells #[.slice (some ⟨g,0,none⟩) m m,.int .i64 (l.length : Int),.int .i64 0,.slice none 0 0,.int .i64 0,.int .i64 (most : Int),.pointer none,.pointer none] 90)) (.pointer (some ⟨w1.heap.size,0,none⟩)) l N most := by
 subst hN
 have hlt := hx.lt
 have hbb : Below W0.heap.size W0 w1 := ⟨hb.os,hb.tape,hb.output,hb.size,hb.block⟩
 exact ⟨w1.heap.size,g,m,rfl,hbb.size,hgg,by omega,Has.new w1 _,hx.alloc _,hmm,hbb.alloc hbb.size _⟩
abbrev zr : Obj := .cells #[.slice none 0 0,.int .i64 0,.int .i64 0,.slice none 0 0,.int .i64 0,.int .i64 0,.pointer none,.pointer none] 90
theorem RdLaid.two {W0 w1 : World} {g m N most : Nat} {l : List Bool} (hN : N = l.length) (hmm : m = (l.length + 7) / 8) (hgg : (W0.alloc zr).drew.heap.size <= g) (hx : Has w1 g (bytesObj (Bs.pack l))) (hb : Below (W0.alloc zr).drew.heap.size (W0.alloc zr).drew w1) (hz : Has w1 W0.heap.size zr) :
  RdLaid W0 ((((((((w1.setCell ⟨W0.heap.size,0,none⟩ (.slice (some ⟨g,0,none⟩) m m)).setCell ⟨W0.heap.size,1,none⟩ (.int .i64 (l.length : Int))).setCell ⟨W0.heap.size,2,none⟩ (.int .i64 0)).setCell ⟨W0.heap.size,3,none⟩ (.slice none 0 0)).setCell ⟨W0.heap.size,4,none⟩ (.int .i64 0)).setCell ⟨W0.heap.size,5,none⟩ (.int .i64 (most : Int))).setCell ⟨W0.heap.size,6,none⟩ (.pointer none)).setCell ⟨W0.heap.size,7,none⟩ (.pointer none)) (.pointer (some ⟨W0.heap.size,0,none⟩)) l N most := by
 subst hN
 have hg2 : W0.heap.size + 1 <= g := by simpa using hgg
 have hbb : Below W0.heap.size W0 w1 := (below1 W0 zr).trans (Below.mono (show Below (W0.alloc zr).heap.size (W0.alloc zr) w1 from ⟨hb.os,hb.tape,hb.output,hb.size,hb.block⟩) (by simp))
 have h8 := (((((((hz.setSelf (i := 0) (.slice (some ⟨g,0,none⟩) m m)).setSelf (i := 1) (.int .i64 (l.length : Int))).setSelf (i := 2) (.int .i64 0)).setSelf (i := 3) (.slice none 0 0)).setSelf (i := 4) (.int .i64 0)).setSelf (i := 5) (.int .i64 (most : Int))).setSelf (i := 6) (.pointer none)).setSelf (i := 7) (.pointer none)
 have hO := ((((((((only_set w1 W0.heap.size 0 (.slice (some ⟨g,0,none⟩) m m)).trans (only_set _ W0.heap.size 1 (.int .i64 (l.length : Int)))).trans (only_set _ W0.heap.size 2 (.int .i64 0))).trans (only_set _ W0.heap.size 3 (.slice none 0 0))).trans (only_set _ W0.heap.size 4 (.int .i64 0))).trans (only_set _ W0.heap.size 5 (.int .i64 (most : Int)))).trans (only_set _ W0.heap.size 6 (.pointer none))).trans (only_set _ W0.heap.size 7 (.pointer none)))
 refine ⟨W0.heap.size,g,m,rfl,Nat.le_refl _,by omega,by omega,?_,hx.only hO (by omega),hmm,hO.below hbb (Nat.le_refl _) hbb.size⟩
 simpa [rdi,If.tell] using h8
end
section
open Go.RowKit
theorem string_of (w : World) (a : Option Addr) (len cap : Nat) (bs : List Nat) (S : ByteArray) (h : Sl w (.slice a len cap) bs) (hS : Hid (S = strB bs)) : (convert 22 9 (.slice a len cap)).run Tryz.prog w = .ok (.string S) w := by
 rw [hS.out]
 exact run_string w 22 9 5 Tryz.underlying22 Tryz.underlying5 Tryz.underlying9 a len cap bs h
theorem new_sl (w : World) (cs : Array Value) (fr : Nat × Nat) (bs : List Nat) (n c : Nat) (h : cs = (vb bs).toArray) (h8 : ∀ x ∈ bs,x < 256) (hn : n = bs.length) (hle : n <= 281474976710656) :
  Sl (w.alloc (.cells cs 5 fr)) (.slice (some ⟨w.heap.size,0,none⟩) n c) bs := by
 refine ⟨_,n,c,rfl,hn,hle,fun h => by simp at h,h8,fun h0 => ⟨w.heap.size,0,rfl,by simp,fun i hi => ?_⟩⟩
 rw [Nat.zero_add,h]
 have hi' : i < bs.length := by omega
 have e : (w.alloc (.cells (vb bs).toArray 5 fr)).heap[w.heap.size]? = some (.cells (vb bs).toArray 5 fr) := by
  show (w.heap.push _)[_]? = _
  simp
 unfold World.cell?
 simp only [e]
 simp [vb_get,hi']
def GG (w : World) : Prop := Glob w /\ GlobE w
theorem GG.later {w w' : World} (h : GG w) (hb : Below w.heap.size w w') : GG w' := ⟨h.1.later hb,h.2.later hb⟩
end
section
open Go.RowKit
namespace If
end If
end
section
open Go.ChangeShapes Go.WideShapes Go.ChangeAt Go.RowKit Go.Joins
namespace If
end If
end
end Go.Proofs.YtckbhciehmokdaaGreatDoor
