import Derived.Test.YtmgpcbjciioiaaaGreatDoorHrnew
import Derived.Test.YtmgpcbjciioiaaaGreatDoorHsort
import Derived.Test.YtmgpcbjciioiaaaGreatDoorSlone
import Derived.Test.YtmgpcbjciioiaaaGreatDoorCarg
import Derived.Test.YtmgpcbjciioiaaaGreatDoorKlen
import Derived.Test.YtmgpcbjciioiaaaGreatDoorSsym
import Derived.Deep.RegionHeld3
import Derived.Lib.MinMax
namespace Go.Proofs.YtmgpcbjciioiaaaGreatDoor
set_option maxRecDepth 100000
set_option maxHeartbeats 8000000
section
open Go.RowKit
def tkv (t : If.Tk) : Value := .agg #[.int .i64 (t.len : Int),.int .i64 (t.far : Int),.int .u8 (t.lit : Int)]
theorem isByte_any (n d x : Nat) (w : World) : Calls Tryz.prog 97 #[.agg #[.int .i64 (n : Int),.int .i64 (d : Int),.int .u8 (x : Int)]] w fun e w' => e = .returned (.bool (decide (n = 0 /\ d = 0))) /\ Below w.heap.size w w' := by
 by_cases h1 : n = 0
 ·subst h1
  by_cases h2 : d = 0
  ·subst h2
   go_enter Tryz.func97,Tryz.ntmps97
   go_wp2
   go_ret
   exact ⟨rfl,below1 _ _⟩
  ·have e : decide ((0 : Nat) = 0 /\ d = 0) = false := by simp [h2]
   rw [e]
   have d1 : ((d : Int) == 0) = false := by simp; omega
   clear h2 e
   go_enter Tryz.func97,Tryz.ntmps97
   go_wp2
   go_ret
   exact ⟨rfl,below1 _ _⟩
 ·have e : decide (n = 0 /\ d = 0) = false := by simp [h1]
  rw [e]
  have d1 : ((n : Int) == 0) = false := by simp; omega
  clear h1 e
  go_enter Tryz.func97,Tryz.ntmps97
  go_wp2
  go_ret
  exact ⟨rfl,below1 _ _⟩
theorem isCopy_ok (n d : Nat) (w : World) (h1 : 3 <= n) (h2 : n <= 258) (h3 : 1 <= d) (h4 : d <= 32768) : Calls Tryz.prog 142 #[.agg #[.int .i64 (n : Int),.int .i64 (d : Int),.int .u8 0]] w fun e w' => e = .returned (.bool true) /\ Below w.heap.size w w' := by
 have d1 : decide ((d : Int) <= 32768) = true := by simp; omega
 go_enter Tryz.func142,Tryz.ntmps142
 go_wp2
 go_ret
 exact ⟨by rw [<- d1]; rfl,below1 _ _⟩
theorem tk_cells {w : World} {T : Nat} {a b c : Value} {t : TypeId} (h : Has w T (.cells #[a,b,c] t (0,0))) : w.cell? ⟨T,0,none⟩ = some a /\ w.cell? ⟨T,1,none⟩ = some b /\ w.cell? ⟨T,2,none⟩ = some c :=
 ⟨by rw [h.cell]; rfl,by rw [h.cell]; rfl,by rw [h.cell]; rfl⟩
def Tv (t : If.Tk) : Prop := If.Byt t ∨ If.Cop t
theorem mcheck_ok (t : If.Tk) (w : World) (ht : Tv t) : Calls Tryz.prog 96 #[tkv t] w fun e w' => e = .returned (.int .i64 0) /\ Below w.heap.size w w' := by
 obtain ⟨n,d,x⟩ := t
 unfold tkv
 rcases ht with ⟨h1,h2,_⟩ | ⟨h0,h1,h2,h3,h4⟩
 ·simp only at h1 h2
  subst h1 h2
  go_enter Tryz.func96,Tryz.ntmps96
  go_wp2_with (refine (isByte_any 0 0 x _).mono ?_; rintro e w1 ⟨rfl,hb1⟩)
  go_ret
  exact ⟨rfl,(below1 _ _).trans (hb1.mono (by simp))⟩
 ·simp only at h0 h1 h2 h3 h4
  subst h0
  have hb : decide (n = 0 /\ d = 0) = false := by simp; omega
  have HI := LH (fun W => isByte_any n d 0 W)
  rw [hb] at HI
  have HC := LH (fun W => isCopy_ok n d W h1 h2 h3 h4)
  clear hb h1 h2 h3 h4
  go_enter Tryz.func96,Tryz.ntmps96
  go_wp2_with fail
  refine (HI.out _).mono ?_
  rintro e w1 ⟨rfl,hb1⟩
  obtain ⟨hT,hb,_⟩ := facts1 hb1
  obtain ⟨c0,c1,c2⟩ := tk_cells hT
  have HB := LH hb
  clear hb1 hT hb
  go_wp2_with fail
  refine (HC.out _).mono ?_
  rintro e w2 ⟨rfl,hb2⟩
  go_wp2
  go_ret
  exact ⟨rfl,HB.out.trans (hb2.mono HB.out.size)⟩
theorem size_val (t : If.Tk) (ht : Tv t) : max (t.len : Int) 1 = (If.sz t : Int) := by
 unfold If.sz
 rcases ht with ⟨h1,_⟩ | ⟨_,h1,_⟩
 ·rw [if_pos h1,h1]; rfl
 ·rw [if_neg (by omega)]; omega
theorem msize_ok (t : If.Tk) (w : World) (ht : Tv t) : Calls Tryz.prog 86 #[tkv t] w fun e w' => e = .returned (.int .i64 (If.sz t : Int)) /\ Below w.heap.size w w' := by
 have h := size_val t ht
 obtain ⟨n,d,x⟩ := t
 unfold tkv
 generalize If.sz ⟨n,d,x⟩ = z at h ⊢
 have HH := LH h
 clear h ht
 go_enter Tryz.func86,Tryz.ntmps86
 go_wp2
 go_ret
 exact ⟨by rw [<- HH.out]; rfl,below1 _ _⟩
theorem fits_ok (t : If.Tk) (n most : Nat) (w : World) (ht : Tv t) (h1 : t.far <= n) (h2 : n + If.sz t <= most) (h3 : most <= 65536) :
  Calls Tryz.prog 55 #[tkv t,.int .i64 (n : Int),.int .i64 (most : Int)] w fun e w' => e = .returned (.int .i64 0) /\ Below w.heap.size w w' := by
 obtain ⟨z,hz⟩ : ∃ z,z = If.sz t := ⟨_,rfl⟩
 have HC := LH (fun W => mcheck_ok t W ht)
 have HS := LH (fun W => msize_ok t W ht)
 rw [<- hz] at HS h2
 obtain ⟨len,d,x⟩ := t
 unfold tkv at *
 simp only at h1 HC HS ⊢
 have d1 : decide ((d : Int) > (n : Int)) = false := by simp; omega
 have d2 : decide ((n : Int) < (d : Int)) = false := by simp; omega
 have d3 : decide (n < d) = false := by simp; omega
 have e1 : decide ((most : Int) < ((n + z : Nat) : Int)) = false := by simp; omega
 have e2 : decide (most < n + z) = false := by simp; omega
 clear ht hz
 go_enter Tryz.func55,Tryz.ntmps55
 go_wp2_with fail
 refine (HC.out _).mono ?_
 rintro e w1 ⟨rfl,hb1⟩
 obtain ⟨hT,hb,_⟩ := facts1 hb1
 obtain ⟨c0,c1,c2⟩ := tk_cells hT
 have HB := LH hb
 clear hb1 hT hb
 go_wp2_with fail
 refine (HS.out _).mono ?_
 rintro e w2 ⟨rfl,hb2⟩
 have HB2 := LH (HB.out.trans (hb2.mono HB.out.size))
 clear hb2
 go_wp2
 go_ret
 exact ⟨rfl,HB2.out⟩
theorem own_ne_ty {w : World} {base n b : Nat} {v : Value} {e : TypeId} {size : Nat} {xs : List Value} {cs : Array Value} {fr : Nat × Nat} {t : TypeId} (h : w.ownsRow base e size v n xs) (hb : Has w b (.cells cs t fr)) (ht : t ≠ e) : v.ownBlock ≠ some b := by
 rcases h.2 with ⟨rfl,_⟩ | ⟨g,cap,cur,rfl,_,hg,_⟩
 ·simp [Value.ownBlock]
 ·intro e'
  simp only [Value.ownBlock,Option.some.injEq] at e'
  subst e'
  have hb' : w.heap[g]? = some (.cells cs t fr) := hb
  rw [hg] at hb'
  simp only [Option.some.injEq,Obj.cells.injEq] at hb'
  exact ht hb'.2.1.symm
theorem wpList_append_byte {ops : Array Oper} {rest : List Oper} {o : Oper} {a : Act} {w : World} {Q : Exit -> Act -> World -> Prop} (hgd : o.guard = none) (s x : Operand)
  (ho : o.op = .call { callee := .builtin .append,args := #[s,x],argTypes := #[22,22] })
  (base : Nat) (v : Value) (n : Nat) (bs : List Nat) (hs : a.eval s = v) (hown : w.ownsRow base 5 1 v n (vb bs))
  (g y : Nat) (hx : a.eval x = .slice (some ⟨g,0,none⟩) 1 1) (hc : w.cell? ⟨g,0,none⟩ = some (.int .u8 (y : Int))) (b1 : n + 1 <= 140737488355328) (hbase : base <= w.heap.size)
  (h : ∀ v' w',Hid (w'.ownsRow base 5 1 v' (n + 1) (vb (bs ++ [y]))) -> Hid (w.grownBy w' v.ownBlock) -> wpList Tryz.prog ops Q rest (a.put o.dst v') w') :
  wpList Tryz.prog ops Q (o :: rest) a w := by
 obtain ⟨i0,hi,hz0,hz1,hz2⟩ := info_parts Tryz.infoU8
 refine wpList_append_own w hgd s x 22 ho base 5 i0 (.int .u8 0) 1 1 Tryz.underlying22 hi hz0 hz1 hz2 rfl (by decide) v n (vb bs) hs hown ⟨g,0,none⟩ 1 1 [.int .u8 (y : Int)] hx rfl ?_ ?_ (by unfold maxLen; omega) (by omega) hbase ?_
 ·intro j u hj
  match j,hj with
  | 0,hj =>
   simp at hj
   subst hj
   simpa [Addr.add] using hc
 ·intro u hu
  simp at hu
  subst hu
  rfl
 ·intro v' w' h2 h3 _
  refine h v' w' ?_ h3
  show World.ownsRow _ _ _ _ _ _ _
  rw [vb_append]
  exact h2
theorem own_shape {w : World} {base : Nat} {e : TypeId} {size : Nat} {v : Value} {n : Nat} {xs : List Value} (h : w.ownsRow base e size v n xs) : ∃ a cap,v = .slice a n cap := by
 rcases h.2 with ⟨rfl,rfl⟩ | ⟨g,cap,cur,rfl,_⟩
 ·exact ⟨_,_,rfl⟩
 ·exact ⟨_,_,rfl⟩
end
section
open Go.RowKit
theorem below_app {B : Nat} {w w1 w' : World} {base : Nat} {v : Value} {n : Nat} {xs : List Value} {e : TypeId} {size : Nat} (hb : Below B w w1) (ho : w1.ownsRow base e size v n xs) (hg : w1.grownBy w' v.ownBlock) (h1 : B <= base) (h2 : B <= w1.heap.size) : Below B w w' :=
 hb.grown hg h2 (fun q hq => Nat.le_trans h1 (World.ownsRow.lt ho q hq).1)
theorem tell_byte (base x : Nat) (v : Value) (bs : List Nat) (w : World) (ho : w.ownsRow base 5 1 v bs.length (vb bs)) (hb : base <= w.heap.size) (hn : bs.length <= 65536) :
  Calls Tryz.prog 56 #[v,.agg #[.int .i64 0,.int .i64 0,.int .u8 (x : Int)]] w fun e w' => ∃ v',e = .returned v' /\ w'.ownsRow base 5 1 v' (bs.length + 1) (vb (bs ++ [x])) /\ Below base w w' := by
 obtain ⟨n,hnn⟩ : ∃ n,n = bs.length := ⟨_,rfl⟩
 rw [<- hnn] at ho hn ⊢
 have HO := LH ho
 have HB := LH hb
 clear ho hb hnn
 go_enter Tryz.func56,Tryz.ntmps56
 go_wp2_with fail
 refine (isByte_any 0 0 x _).mono ?_
 rintro e w1 ⟨rfl,hb1⟩
 obtain ⟨hT,hb2,_⟩ := facts1 hb1
 obtain ⟨c0,c1,c2⟩ := tk_cells hT
 have KO := LH (own_keep HO.out hb2)
 have KB := LH (hb2.mono HB.out)
 have A1 : Hid _ := KO.out.alloc (.cells #[.int .u8 (x : Int)] 5)
 have A2 : Hid ((w1.alloc (.cells #[.int .u8 (x : Int)] 5)).cell? ⟨w1.heap.size,0,none⟩ = some (.int .u8 (x : Int))) := (Has.new w1 (.cells #[.int .u8 (x : Int)] 5)).one.1
 have A3 : Hid (base <= w1.heap.size) := Nat.le_trans HB.out KB.out.size
 have A4 : Hid (Below base w (w1.alloc (.cells #[.int .u8 (x : Int)] 5))) := KB.out.alloc A3.out _
 clear hb1 hT hb2
 go_wp2_with (at_builtin; (refine wpList_append_byte rfl (.tmp 7) (.tmp 10) rfl base _ n bs rfl A1.out w1.heap.size x rfl A2.out (by omega) (by have := A3.out; simp; omega) ?_; intro v' w' ho hg; have hb := LH (below_app A4.out A1.out hg.out (Nat.le_refl _) (by have := A3.out; simp; omega)); have hO := LH ho.out; clear ho hg))
 go_ret
 exact ⟨_,rfl,hO.out,hb.out⟩
theorem own_cell {w : World} {base n size : Nat} {e : TypeId} {v : Value} {xs : List Value} (h : w.ownsRow base e size v n xs) (hn : 0 < n) :
  ∃ b off cap,v = .slice (some ⟨b,off,none⟩) n cap /\ off = 0 /\ ∀ k,k < n * size -> w.cell? ⟨b,off + k,none⟩ = xs[k]? := by
 obtain ⟨h1,h2⟩ := h
 rcases h2 with ⟨rfl,rfl⟩ | ⟨g,cap,cur,rfl,hb,hg,hc1,hc2,hc3,hc4⟩
 ·omega
 ·refine ⟨g,0,cap,rfl,rfl,fun k hk => ?_⟩
  have hx : Has w g (.cells cur e (0,0)) := hg
  rw [Nat.zero_add,hx.cell,<- hc4,List.getElem?_take_of_lt hk]
  simp
theorem own_byte {w : World} {base n : Nat} {v : Value} {bs : List Nat} (h : w.ownsRow base 5 1 v n (vb bs)) (k : Nat) (hk : k < bs.length) :
  ∃ b off cap,v = .slice (some ⟨b,off,none⟩) n cap /\ w.cell? ⟨b,off + k,none⟩ = some (.int .u8 ((bs[k]?.getD 0 : Nat) : Int)) := by
 have hl : n = bs.length := by simpa [vb] using h.1.symm
 obtain ⟨b,off,cap,rfl,_,hc⟩ := own_cell h (by omega)
 refine ⟨b,off,cap,rfl,?_⟩
 rw [hc k (by omega),vb_get,List.getElem?_eq_getElem hk]
 rfl
theorem tell_copy (base len far : Nat) (v : Value) (bs : List Nat) (w : World) (ho : w.ownsRow base 5 1 v bs.length (vb bs)) (hb : base <= w.heap.size) (hn : bs.length + len <= 65536) (h1 : 3 <= len) (h3 : 1 <= far) (h4 : far <= bs.length) :
  Calls Tryz.prog 56 #[v,.agg #[.int .i64 (len : Int),.int .i64 (far : Int),.int .u8 0]] w fun e w' => ∃ v',e = .returned v' /\ w'.ownsRow base 5 1 v' (bs.length + len) (vb (If.cp far len bs)) /\ Below base w w' := by
 obtain ⟨n,hnn⟩ : ∃ n,n = bs.length := ⟨_,rfl⟩
 rw [<- hnn] at ho hn h4 ⊢
 have HO := LH ho
 have HB := LH hb
 have HN := LH hnn
 have hd : decide (len = 0 /\ far = 0) = false := by simp; omega
 have HI := LH (fun W => isByte_any len far 0 W)
 rw [hd] at HI
 clear ho hb hnn hd
 go_enter Tryz.func56,Tryz.ntmps56
 go_wp2_with fail
 refine (HI.out _).mono ?_
 rintro e w1 ⟨rfl,hb1⟩
 obtain ⟨hT,hb2,_⟩ := facts1 hb1
 obtain ⟨c0,c1,c2⟩ := tk_cells hT
 have KO := LH (own_keep HO.out hb2)
 have KB := LH (hb2.mono HB.out)
 have KT := LH hT
 clear hb1 hT hb2 HI
 go_wp2_with fail
 go_loopw [0,14] (fun s0 s14 wr => ∃ j : Nat,s14 = .int .i64 (j : Int) /\ j <= len /\ Hid (wr.ownsRow base 5 1 s0 (n + j) (vb (If.cp far j bs))) /\ Hid (Below base w wr) /\ Has wr w.heap.size (.cells #[.int .i64 (len : Int),.int .i64 (far : Int),.int .u8 0] 48 (0,0))) (fun _ s _ => len - (intOf s).toNat)
 case atStart => exact ⟨0,rfl,Nat.zero_le _,KO,KB,KT.out⟩
 case round =>
  obtain ⟨j,rfl,hj,KO,KB,KT⟩ := hrel
  obtain ⟨c0,c1,c2⟩ := tk_cells KT
  by_cases hlt : j < len
  ·have hcl : (If.cp far j bs).length = n + j := by rw [If.cp_length,HN.out]
   obtain ⟨b,off,cap,rfl,hcell⟩ := own_byte KO.out (n + j - far) (by rw [hcl]; omega)
   obtain ⟨y,hy⟩ : ∃ y,y = (If.cp far j bs)[n + j - far]?.getD 0 := ⟨_,rfl⟩
   rw [<- hy] at hcell
   have hsub : IntKind.i64.wrap (((n + j : Nat) : Int) - (far : Int)) = ((n + j - far : Nat) : Int) := by rw [IntWalk.i64_in _ (by omega)]; omega
   have HE : Hid (If.cp far (j + 1) bs = If.cp far j bs ++ [y]) := by show _ = _; rw [If.cp_snoc,hcl,<- hy]
   have A1 : Hid _ := KO.out.alloc (.cells #[.int .u8 (y : Int)] 5)
   have A2 : Hid ((wr.alloc (.cells #[.int .u8 (y : Int)] 5)).cell? ⟨wr.heap.size,0,none⟩ = some (.int .u8 (y : Int))) := (Has.new wr (.cells #[.int .u8 (y : Int)] 5)).one.1
   have A3 : Hid (base <= wr.heap.size) := Nat.le_trans HB.out KB.out.size
   have A4 : Hid (Below base w (wr.alloc (.cells #[.int .u8 (y : Int)] 5))) := KB.out.alloc A3.out _
   have A5 := LH (KT.alloc (.cells #[.int .u8 (y : Int)] 5))
   clear hy hcl KO KB KT
   go_wp2_with (at_builtin; (refine wpList_append_byte rfl (.tmp 16) (.tmp 25) rfl base _ (n + j) _ rfl A1.out wr.heap.size y rfl A2.out (by omega) (by have := A3.out; simp; omega) ?_; intro v' w' ho hg; have hb := LH (below_app A4.out A1.out hg.out (Nat.le_refl _) (by have := A3.out; simp; omega)); have hO := LH ho.out; have hT := LH ((hg.out.block _ A5.out.lt (own_ne_ty A1.out A5.out (by decide)).symm).trans A5.out); clear ho hg))
   go_roundw
   case rel => exact ⟨j + 1,by go_num,by omega,(by show World.ownsRow _ _ _ _ _ _ _; rw [HE.out]; exact hO.out),hb,hT.out⟩
   case measure => simp [intOf]; omega
  ·obtain rfl : j = len := by omega
   go_wp2_with fail
   go_ret
   exact ⟨_,rfl,KO.out,KB.out⟩
theorem tell_any (base : Nat) (t : If.Tk) (v : Value) (bs : List Nat) (w : World) (ht : If.Val t bs.length) (ho : w.ownsRow base 5 1 v bs.length (vb bs)) (hb : base <= w.heap.size) (hn : bs.length + If.sz t <= 65536) :
  Calls Tryz.prog 56 #[v,tkv t] w fun e w' => ∃ v',e = .returned v' /\ w'.ownsRow base 5 1 v' (If.tell1 bs t).length (vb (If.tell1 bs t)) /\ Below base w w' := by
 obtain ⟨len,far,x⟩ := t
 rw [If.tell1_length]
 rcases ht with ⟨⟨h1,h2,h3⟩ | ⟨h1,h2,h3,h4,h5⟩,h6⟩
 ·simp only at h1 h2 h3
  subst h1 h2
  have := tell_byte base x v bs w ho hb (by have := If.sz_pos ⟨0,0,x⟩; omega)
  exact this
 ·simp only at h1 h2 h3 h4 h5 h6
  subst h1
  have e1 : If.sz ⟨len,far,0⟩ = len := by unfold If.sz; simp only; rw [if_neg (by omega)]
  have e2 : If.tell1 bs ⟨len,far,0⟩ = If.cp far len bs := by unfold If.tell1; simp only; rw [if_neg (by omega)]
  rw [e1] at hn ⊢
  rw [e2]
  exact tell_copy base len far v bs w ho hb hn h2 h4 h6
theorem toks_sum {ts : List If.Tk} {i : Nat} {t : If.Tk} (h : ts[i]? = some t) : (If.tell (ts.take i)).length + If.sz t <= (If.tell ts).length := by
 have h1 := If.tell_take_succ h
 have h2 := If.tell1_length (If.tell (ts.take i)) t
 rw [<- h1] at h2
 have h3 := (List.getElem?_eq_some_iff.1 h).1
 have h4 := If.tell_take_le ts (ts.length - (i + 1)) (i + 1) (by omega)
 omega
theorem own_token {w : World} {base : Nat} {v : Value} {ts : List If.Tk} (h : w.ownsRow base 48 3 v ts.length (tc ts)) (i : Nat) (hi : i < ts.length) :
  ∃ b off cap,v = .slice (some ⟨b,off,none⟩) ts.length cap /\ w.cell? ⟨b,off + i * 3,none⟩ = some (.int .i64 (ts[i].len : Int)) /\ w.cell? ⟨b,off + i * 3 + 1,none⟩ = some (.int .i64 (ts[i].far : Int)) /\ w.cell? ⟨b,off + i * 3 + 2,none⟩ = some (.int .u8 (ts[i].lit : Int)) := by
 obtain ⟨b,off,cap,rfl,_,hc⟩ := own_cell h (by omega)
 obtain ⟨h1,h2,h3⟩ := tc_get ts i ts[i] (List.getElem?_eq_getElem hi)
 rw [Nat.mul_comm 3 i] at h1 h2 h3
 exact ⟨b,off,cap,rfl,by rw [hc _ (by omega)]; exact h1,by rw [Nat.add_assoc,hc _ (by omega)]; exact h2,by rw [Nat.add_assoc,hc _ (by omega)]; exact h3⟩
end
section
open Go.RowKit
namespace Sy
def lsymA (n : Int) : Nat × Nat × Nat := if 3 <= n /\ n <= 258 then (257 + lk n.toNat,n.toNat - at' lf (lk n.toNat),0) else (0,0,2)
def dsymA (n : Int) : Nat × Nat × Nat := if 1 <= n /\ n <= 32768 then (dk n.toNat,n.toNat - at' df (dk n.toNat),0) else (0,0,2)
def lbitA (s : Int) : Nat × Nat := if 257 <= s /\ s <= 285 then (at' lb (s - 257).toNat,0) else (0,13)
def dbitA (s : Int) : Nat × Nat := if 0 <= s /\ s <= 29 then (at' db s.toNat,0) else (0,13)
def lnumA (s v : Int) : Nat × Nat := if 257 <= s /\ s <= 285 then (if 0 <= v /\ v < (2 ^ at' lb (s - 257).toNat : Nat) then (at' lf (s - 257).toNat + v.toNat,0) else (0,2)) else (0,13)
def dnumA (s v : Int) : Nat × Nat := if 0 <= s /\ s <= 29 then (if 0 <= v /\ v < (2 ^ at' db s.toNat : Nat) then (at' df s.toNat + v.toNat,0) else (0,2)) else (0,13)
end Sy
theorem lsym_any (n : Int) (w : World) (hi : n <= 9223372036854775807) : Calls Tryz.prog 105 #[scl 257 3 4 7,.int .i64 n] w (Three (Sy.lsymA n).1 (Sy.lsymA n).2.1 (Sy.lsymA n).2.2 w) := by
 unfold Sy.lsymA
 by_cases h3 : n < 3
 ·rw [if_neg (by omega)]; exact lsym_less n w h3
 ·by_cases h8 : n = 258
  ·subst h8; rw [if_pos (by omega)]; exact lsym_most w
  ·obtain ⟨m,rfl⟩ : ∃ m : Nat,n = (m : Int) := ⟨n.toNat,by omega⟩
   refine (lsym_loop m w (by omega) (by omega) (by omega)).mono ?_
   rintro e w' (⟨h1,h2⟩ | ⟨h1,h2⟩)
   ·rw [if_pos (by omega)]; exact h2
   ·rw [if_neg (by omega)]; exact h2
theorem dsym_any (n : Int) (w : World) (hi : n <= 9223372036854775807) : Calls Tryz.prog 105 #[scl 0 1 2 15,.int .i64 n] w (Three (Sy.dsymA n).1 (Sy.dsymA n).2.1 (Sy.dsymA n).2.2 w) := by
 unfold Sy.dsymA
 by_cases h3 : n < 1
 ·rw [if_neg (by omega)]; exact dsym_less n w h3
 ·obtain ⟨m,rfl⟩ : ∃ m : Nat,n = (m : Int) := ⟨n.toNat,by omega⟩
  refine (dsym_loop m w (by omega) (by omega)).mono ?_
  rintro e w' (⟨h1,h2⟩ | ⟨h1,h2⟩)
  ·rw [if_pos (by omega)]; exact h2
  ·rw [if_neg (by omega)]; exact h2
theorem lbits_any (s : Int) (w : World) : Calls Tryz.prog 106 #[scl 257 3 4 7,.int .i64 s] w (Two (Sy.lbitA s).1 (Sy.lbitA s).2 w) := by
 unfold Sy.lbitA
 by_cases h : 257 <= s /\ s <= 285
 ·rw [if_pos h]
  by_cases h8 : s = 285
  ·subst h8; exact lbits_lone w
  ·obtain ⟨k,rfl⟩ : ∃ k : Nat,s = 257 + (k : Int) := ⟨(s - 257).toNat,by omega⟩
   have e : (257 + (k : Int) - 257).toNat = k := by omega
   rw [e]; exact lbits_ok k w (by omega)
 ·rw [if_neg h]; exact lbits_bad s w (by omega)
theorem dbits_any (s : Int) (w : World) : Calls Tryz.prog 106 #[scl 0 1 2 15,.int .i64 s] w (Two (Sy.dbitA s).1 (Sy.dbitA s).2 w) := by
 unfold Sy.dbitA
 by_cases h : 0 <= s /\ s <= 29
 ·rw [if_pos h]
  obtain ⟨k,rfl⟩ : ∃ k : Nat,s = (k : Int) := ⟨s.toNat,by omega⟩
  have := dbits_ok k w (by omega)
  rw [Int.zero_add] at this
  exact this
 ·rw [if_neg h]; exact dbits_bad s w (by omega)
theorem lsym_go (n : Int) (w : World) (hi : n <= 9223372036854775807) : Calls Tryz.prog 62 #[.int .i64 n] w (Three (Sy.lsymA n).1 (Sy.lsymA n).2.1 (Sy.lsymA n).2.2 w) := by
 have h1 := fun w => lengths_is w
 have h2 := fun w => lsym_any n w hi
 obtain ⟨a,ha⟩ : ∃ a,a = (Sy.lsymA n).1 := ⟨_,rfl⟩
 obtain ⟨b,hb⟩ : ∃ b,b = (Sy.lsymA n).2.1 := ⟨_,rfl⟩
 obtain ⟨c,hc⟩ : ∃ c,c = (Sy.lsymA n).2.2 := ⟨_,rfl⟩
 rw [<- ha,<- hb,<- hc]
 simp only [<- ha,<- hb,<- hc] at h2
 unfold scl at h1 h2
 have H1 := LH h1
 have H2 := LH h2
 clear h1 h2 ha hb hc
 go_enter Tryz.func62,Tryz.ntmps62
 go_wp2_with fail
 refine (H1.out _).mono ?_
 rintro e w1 ⟨rfl,hb⟩
 have B1 := LH hb
 clear hb
 go_wp2_with fail
 refine (H2.out _).mono ?_
 rintro e w2 ⟨rfl,hb⟩
 have B2 := LH (B1.out.trans (hb.mono B1.out.size))
 clear hb
 go_wp2_with fail
 go_ret3
 exact ⟨rfl,B2.out⟩
theorem lbit_go (s : Int) (w : World) : Calls Tryz.prog 63 #[.int .i64 s] w (Two (Sy.lbitA s).1 (Sy.lbitA s).2 w) := by
 have h1 := fun w => lengths_is w
 have h2 := fun w => lbits_any s w
 obtain ⟨a,ha⟩ : ∃ a,a = (Sy.lbitA s).1 := ⟨_,rfl⟩
 obtain ⟨b,hb⟩ : ∃ b,b = (Sy.lbitA s).2 := ⟨_,rfl⟩
 rw [<- ha,<- hb]
 simp only [<- ha,<- hb] at h2
 unfold scl at h1 h2
 have H1 := LH h1
 have H2 := LH h2
 clear h1 h2 ha hb
 go_enter Tryz.func63,Tryz.ntmps63
 go_wp2_with fail
 refine (H1.out _).mono ?_
 rintro e w1 ⟨rfl,hb⟩
 have B1 := LH hb
 clear hb
 go_wp2_with fail
 refine (H2.out _).mono ?_
 rintro e w2 ⟨rfl,hb⟩
 have B2 := LH (B1.out.trans (hb.mono B1.out.size))
 clear hb
 go_wp2_with fail
 go_ret2
 exact ⟨rfl,B2.out⟩
theorem dsym_go (n : Int) (w : World) (hi : n <= 9223372036854775807) : Calls Tryz.prog 64 #[.int .i64 n] w (Three (Sy.dsymA n).1 (Sy.dsymA n).2.1 (Sy.dsymA n).2.2 w) := by
 have h1 := fun w => distances_is w
 have h2 := fun w => dsym_any n w hi
 obtain ⟨a,ha⟩ : ∃ a,a = (Sy.dsymA n).1 := ⟨_,rfl⟩
 obtain ⟨b,hb⟩ : ∃ b,b = (Sy.dsymA n).2.1 := ⟨_,rfl⟩
 obtain ⟨c,hc⟩ : ∃ c,c = (Sy.dsymA n).2.2 := ⟨_,rfl⟩
 rw [<- ha,<- hb,<- hc]
 simp only [<- ha,<- hb,<- hc] at h2
 unfold scl at h1 h2
 have H1 := LH h1
 have H2 := LH h2
 clear h1 h2 ha hb hc
 go_enter Tryz.func64,Tryz.ntmps64
 go_wp2_with fail
 refine (H1.out _).mono ?_
 rintro e w1 ⟨rfl,hb⟩
 have B1 := LH hb
 clear hb
 go_wp2_with fail
 refine (H2.out _).mono ?_
 rintro e w2 ⟨rfl,hb⟩
 have B2 := LH (B1.out.trans (hb.mono B1.out.size))
 clear hb
 go_wp2_with fail
 go_ret3
 exact ⟨rfl,B2.out⟩
theorem dbit_go (s : Int) (w : World) : Calls Tryz.prog 65 #[.int .i64 s] w (Two (Sy.dbitA s).1 (Sy.dbitA s).2 w) := by
 have h1 := fun w => distances_is w
 have h2 := fun w => dbits_any s w
 obtain ⟨a,ha⟩ : ∃ a,a = (Sy.dbitA s).1 := ⟨_,rfl⟩
 obtain ⟨b,hb⟩ : ∃ b,b = (Sy.dbitA s).2 := ⟨_,rfl⟩
 rw [<- ha,<- hb]
 simp only [<- ha,<- hb] at h2
 unfold scl at h1 h2
 have H1 := LH h1
 have H2 := LH h2
 clear h1 h2 ha hb
 go_enter Tryz.func65,Tryz.ntmps65
 go_wp2_with fail
 refine (H1.out _).mono ?_
 rintro e w1 ⟨rfl,hb⟩
 have B1 := LH hb
 clear hb
 go_wp2_with fail
 refine (H2.out _).mono ?_
 rintro e w2 ⟨rfl,hb⟩
 have B2 := LH (B1.out.trans (hb.mono B1.out.size))
 clear hb
 go_wp2_with fail
 go_ret2
 exact ⟨rfl,B2.out⟩
end
section
namespace If
open Hd (num rd head)
def bb (bs : List Nat) : List Bool := Bs.bitsFrom bs (8 * bs.length)
theorem bb_length (bs : List Nat) : (bb bs).length = 8 * bs.length := Bs.bitsFrom_length _ _
theorem bb_pack (bs : List Nat) (h8 : ∀ x ∈ bs,x < 256) : Bs.pack (bb bs) = bs := Bs.pack_bitsFrom bs _ ⟨by omega,Or.inl (by omega)⟩ h8
theorem bb_byte (bs : List Nat) (h8 : ∀ x ∈ bs,x < 256) (j : Nat) (hj : j < bs.length) : Bs.byteAt (bb bs) j = bs[j]?.getD 0 := by
 have h : (Bs.pack (bb bs))[j]?.getD 0 = Bs.byteAt (bb bs) j := Bs.packTo_get _ _ _ (by rw [bb_length]; omega)
 rw [bb_pack bs h8] at h
 exact h.symm
theorem num_append (a b : List Bool) : Bs.num (a ++ b) = Bs.num a + 2 ^ a.length * Bs.num b := by
 induction a with
 | nil => simp [Bs.num]
 | cons x a ih =>
  simp only [List.cons_append,Bs.num,ih,List.length_cons,Nat.pow_succ]
  generalize Bs.num b = q
  generalize 2 ^ a.length = r
  have : r * 2 * q = 2 * (r * q) := by rw [Nat.mul_comm r 2,Nat.mul_assoc]
  omega
theorem num_split (l : List Bool) (p n m : Nat) (h : p + n <= l.length) : num l p (n + m) = num l p n + 2 ^ n * num l (p + n) m := by
 unfold num
 rw [List.take_add,num_append,List.drop_drop,List.length_take,List.length_drop,Nat.min_eq_left (by omega)]
theorem num16 (l : List Bool) (j : Nat) (h : 8 * j + 8 <= l.length) : num l (8 * j) 16 = Bs.byteAt l j + 256 * Bs.byteAt l (j + 1) := by
 rw [num_split l (8 * j) 8 8 h]
 rfl
theorem num_first (l : List Bool) (j f : Nat) (h : 8 * j + 8 <= l.length) (hf : Bs.byteAt l j = f) (h1 : f <= 1) : num l (8 * j) 1 = f /\ num l (8 * j + 1) 2 = 0 := by
 have e1 := num_split l (8 * j) 1 7 (by omega)
 have e2 := num_split l (8 * j + 1) 2 5 (by omega)
 have e3 : num l (8 * j) 8 = f := hf
 rw [show 1 + 7 = 8 from rfl,e3] at e1
 rw [show 2 + 5 = 7 from rfl] at e2
 omega
def blk (f : Nat) (x : List Nat) : List Nat := [f,x.length % 256,x.length / 256,255 - x.length % 256,255 - x.length / 256] ++ x
theorem blk_length (f : Nat) (x : List Nat) : (blk f x).length = 5 + x.length := by simp [blk]; omega
theorem blk_lt (f : Nat) (x : List Nat) (hf : f <= 1) (hx : x.length < 65536) (h8 : ∀ y ∈ x,y < 256) : ∀ y ∈ blk f x,y < 256 := by
 intro y hy
 simp only [blk,List.cons_append,List.nil_append,List.mem_cons] at hy
 rcases hy with rfl | rfl | rfl | rfl | rfl | hy
 ·omega
 ·omega
 ·omega
 ·omega
 ·omega
 ·exact h8 y hy
theorem and_turned (n : Nat) (h : n < 65536) : n &&& (65535 - n) = 0 := by
 apply Nat.eq_of_testBit_eq
 intro i
 rw [Nat.testBit_and,Nat.zero_testBit,show 65535 - n = 2 ^ 16 - (n + 1) by omega,Nat.testBit_two_pow_sub_succ (by omega)]
 cases n.testBit i <;> simp
theorem stored_block (pre x post : List Nat) (f most : Nat) (out : List Nat) (hf : f <= 1) (hx : x.length < 65536) (h8 : ∀ y ∈ pre ++ blk f x ++ post,y < 256) (hr : out.length + x.length <= most) :
  block (bb (pre ++ blk f x ++ post)) most (8 * pre.length) out = (out ++ x,8 * (pre ++ blk f x).length,0) /\ num (bb (pre ++ blk f x ++ post)) (8 * pre.length) 1 = f := by
 have hB := bb_byte _ h8
 have hL := bb_length (pre ++ blk f x ++ post)
 have hlen : (pre ++ blk f x ++ post).length = pre.length + 5 + x.length + post.length := by simp only [List.length_append,blk_length]; omega
 have hat : ∀ j,j < 5 + x.length -> (pre ++ blk f x ++ post)[pre.length + j]?.getD 0 = (blk f x)[j]?.getD 0 := by
  intro j hj
  rw [List.append_assoc,List.getElem?_append_right (by omega),List.getElem?_append_left (by rw [blk_length]; omega)]
  congr 2
  omega
 generalize pre ++ blk f x ++ post = bs at *
 rw [hlen] at hL
 obtain ⟨n1,n2⟩ := num_first (bb bs) pre.length f (by omega) (by rw [hB _ (by omega)]; have := hat 0 (by omega); rw [Nat.add_zero] at this; rw [this]; rfl) hf
 have n3 : num (bb bs) (8 * (pre.length + 1)) 16 = x.length := by
  rw [num16 _ _ (by omega),hB _ (by omega),hB _ (by omega),hat 1 (by omega),show pre.length + 1 + 1 = pre.length + 2 from rfl,hat 2 (by omega)]
  show x.length % 256 + 256 * (x.length / 256) = x.length
  omega
 have n4 : num (bb bs) (8 * (pre.length + 1) + 16) 16 = 65535 - x.length := by
  rw [show 8 * (pre.length + 1) + 16 = 8 * (pre.length + 3) by omega,num16 _ _ (by omega),hB _ (by omega),hB _ (by omega),hat 3 (by omega),show pre.length + 3 + 1 = pre.length + 4 from rfl,hat 4 (by omega)]
  show 255 - x.length % 256 + 256 * (255 - x.length / 256) = 65535 - x.length
  omega
 refine ⟨?_,n1⟩
 unfold block
 rw [if_neg (by rw [hL]; omega),if_pos n2]
 unfold stored
 have e : up (8 * pre.length + 3) = 8 * (pre.length + 1) := by unfold up; omega
 rw [e,n3,n4,if_neg (by rw [hL]; omega),if_neg (by rw [and_turned _ hx]; omega),if_neg (by omega),if_neg (by rw [hL]; omega)]
 have e2 : (List.range x.length).map (fun i => Bs.byteAt (bb bs) ((8 * (pre.length + 1) + 32) / 8 + i)) = x := by
  apply List.ext_getElem?
  intro i
  by_cases hi : i < x.length
  ·rw [List.getElem?_map,List.getElem?_range hi,Option.map_some,show (8 * (pre.length + 1) + 32) / 8 + i = pre.length + (5 + i) by omega,hB _ (by omega),hat (5 + i) (by omega)]
   rw [List.getElem?_eq_getElem hi]
   have : (blk f x)[5 + i]? = x[i]? := by
    unfold blk
    rw [List.getElem?_append_right (by simp)]
    congr 1
    simp
   rw [this,List.getElem?_eq_getElem hi]
   rfl
  ·rw [List.getElem?_eq_none (by simp; omega),List.getElem?_eq_none (by omega)]
 rw [e2,List.length_append,blk_length]
 congr 2
 omega
def strm : List (List Nat) -> List Nat
 | [] => []
 | [x] => blk 1 x
 | x :: y :: r => blk 0 x ++ strm (y :: r)
theorem strm_lt : ∀ (L : List (List Nat)),(∀ x ∈ L,x.length < 65536) -> (∀ x ∈ L,∀ y ∈ x,y < 256) -> ∀ y ∈ strm L,y < 256
 | [],_,_,y,h => by simp [strm] at h
 | [x],h1,h2,y,h => blk_lt 1 x (by omega) (h1 x (by simp)) (h2 x (by simp)) y h
 | x :: z :: r,h1,h2,y,h => by
  simp only [strm,List.mem_append] at h
  rcases h with h | h
  ·exact blk_lt 0 x (by omega) (h1 x (by simp)) (h2 x (by simp)) y h
  ·exact strm_lt (z :: r) (fun a ha => h1 a (List.mem_cons_of_mem _ ha)) (fun a ha => h2 a (List.mem_cons_of_mem _ ha)) y h
theorem strm_length : ∀ (L : List (List Nat)),L.length <= (strm L).length
 | [] => by simp [strm]
 | [x] => by simp [strm,blk_length]; omega
 | x :: z :: r => by have := strm_length (z :: r); simp only [strm,List.length_append,blk_length,List.length_cons] at this ⊢; omega
theorem stored_blocks (most : Nat) : ∀ (L : List (List Nat)) (pre out : List Nat) (k : Nat),L ≠ [] -> (∀ x ∈ L,x.length < 65536) -> (∀ y ∈ pre,y < 256) -> (∀ x ∈ L,∀ y ∈ x,y < 256) -> out.length + L.flatten.length <= most -> L.length <= k ->
  blocks (bb (pre ++ strm L)) most k out (8 * pre.length) = (out ++ L.flatten,8 * (pre ++ strm L).length,0)
 | [],_,_,_,h,_,_,_,_,_ => absurd rfl h
 | [x],pre,out,0,_,_,_,_,_,h => by simp at h
 | [x],pre,out,k + 1,_,h1,h2,h3,h4,_ => by
  simp only [List.flatten_cons,List.flatten_nil,List.append_nil] at h4 ⊢
  obtain ⟨e1,e2⟩ := stored_block pre x [] 1 most out (by omega) (h1 x (by simp)) (by
   intro y hy
   simp only [List.append_nil,List.mem_append] at hy
   rcases hy with hy | hy
   ·exact h2 y hy
   ·exact blk_lt 1 x (by omega) (h1 x (by simp)) (h3 x (by simp)) y hy) h4
  rw [List.append_nil] at e1 e2
  show blocks (bb (pre ++ blk 1 x)) most (k + 1) out (8 * pre.length) = _
  simp only [blocks]
  rw [e1,e2,if_neg (by simp),if_pos rfl]
  rfl
 | x :: z :: r,pre,out,0,_,_,_,_,_,h => by simp at h
 | x :: z :: r,pre,out,k + 1,_,h1,h2,h3,h4,h5 => by
  have hz1 : ∀ a ∈ z :: r,a.length < 65536 := fun a ha => h1 a (List.mem_cons_of_mem _ ha)
  have hz3 : ∀ a ∈ z :: r,∀ y ∈ a,y < 256 := fun a ha => h3 a (List.mem_cons_of_mem _ ha)
  have hb := blk_lt 0 x (by omega) (h1 x (by simp)) (h3 x (by simp))
  rw [List.flatten_cons] at h4 ⊢
  rw [List.length_append] at h4
  obtain ⟨e1,e2⟩ := stored_block pre x (strm (z :: r)) 0 most out (by omega) (h1 x (by simp)) (by
   intro y hy
   simp only [List.mem_append] at hy
   rcases hy with (hy | hy) | hy
   ·exact h2 y hy
   ·exact hb y hy
   ·exact strm_lt _ hz1 hz3 y hy) (by omega)
  have ih := stored_blocks most (z :: r) (pre ++ blk 0 x) (out ++ x) k (by simp) hz1 (by
   intro y hy
   rw [List.mem_append] at hy
   rcases hy with hy | hy
   ·exact h2 y hy
   ·exact hb y hy) hz3 (by rw [List.length_append]; omega) (by simpa using h5)
  have e0 : pre ++ strm (x :: z :: r) = pre ++ blk 0 x ++ strm (z :: r) := by simp [strm]
  rw [e0]
  simp only [blocks]
  rw [e1,e2,if_neg (by simp),if_neg (by simp)]
  simp only
  rw [ih,List.append_assoc out x]
theorem stored_decode (L : List (List Nat)) (most : Int) (h0 : L ≠ []) (h1 : ∀ x ∈ L,x.length < 65536) (h3 : ∀ x ∈ L,∀ y ∈ x,y < 256) (h4 : (L.flatten.length : Int) <= most) (h5 : most <= 65536) :
  decode (bb (strm L)) most = (L.flatten,(strm L).length,0) := by
 have e := stored_blocks most.toNat L [] [] ((bb (strm L)).length + 1) h0 h1 (fun y hy => nomatch hy) h3 (by simp only [List.length_nil]; omega) (by
  have := strm_length L
  rw [bb_length]; omega)
 simp only [List.nil_append,List.length_nil,Nat.mul_zero] at e
 unfold decode
 rw [if_neg (by omega),e,if_neg (by simp)]
 simp only
 congr 2
 omega
end If
end
end Go.Proofs.YtmgpcbjciioiaaaGreatDoor
namespace Go.Proofs.YtmgpcbjciioiaaaGreatDoor.Ls
set_option maxRecDepth 100000
set_option maxHeartbeats 8000000
section
open Go.RowKit
theorem cmp_any (x y p q : Nat) (w : World) (hx : w.cell? ⟨x,0,none⟩ = some (.int .i64 (p : Int))) (hy : w.cell? ⟨y,0,none⟩ = some (.int .i64 (q : Int))) :
  Calls Tryz.prog 189 #[.pointer (some ⟨x,0,none⟩),.pointer (some ⟨y,0,none⟩)] w (CmpPost w (cmpv p q)) := by
 go_enter Tryz.func189,Tryz.ntmps189
 go_wp2
 go_quiet ((go_at_call 90; exact quiet_left (compare_any p q _)))
 go_wp2
 go_ret
 exact ⟨rfl,_,rfl⟩
end
section
namespace Lm
def mrgF {α : Type} (k : α -> Nat) : Nat -> List α -> List α -> List α
 | 0,a,b => a ++ b
 | _ + 1,[],b => b
 | _ + 1,x :: a,[] => x :: a
 | n + 1,x :: a,y :: b => if k y < k x then y :: mrgF k n (x :: a) b else x :: mrgF k n a (y :: b)
def mrg {α : Type} (k : α -> Nat) (a b : List α) : List α := mrgF k (a.length + b.length) a b
theorem mrg_nil_left {α : Type} (k : α -> Nat) (b : List α) : mrg k [] b = b := by
 unfold mrg
 cases b with
 | nil => rfl
 | cons y b => rfl
theorem mrg_nil_right {α : Type} (k : α -> Nat) (a : List α) : mrg k a [] = a := by
 unfold mrg
 cases a with
 | nil => rfl
 | cons x a => rfl
theorem mrg_cons {α : Type} (k : α -> Nat) (x y : α) (a b : List α) : mrg k (x :: a) (y :: b) = if k y < k x then y :: mrg k (x :: a) b else x :: mrg k a (y :: b) := by
 unfold mrg
 rw [show (x :: a).length + (y :: b).length = ((x :: a).length + b.length) + 1 by simp; omega,mrgF]
 rw [show (x :: a).length + b.length = a.length + (y :: b).length by simp; omega]
theorem mrg_ind {α : Type} (k : α -> Nat) {M : List α -> List α -> Prop} (hl : ∀ b,M [] b) (hr : ∀ a,M a [])
  (h1 : ∀ x a y b,¬ k y < k x -> M a (y :: b) -> M (x :: a) (y :: b)) (h2 : ∀ x a y b,k y < k x -> M (x :: a) b -> M (x :: a) (y :: b)) : ∀ a b,M a b := by
 have h : ∀ n a b,a.length + b.length <= n -> M a b := by
  intro n
  induction n with
  | zero =>
   intro a b h
   rw [List.eq_nil_of_length_eq_zero (l := a) (by omega)]; exact hl b
  | succ n ih =>
   intro a b h
   cases a with
   | nil => exact hl b
   | cons x a =>
    cases b with
    | nil => exact hr _
    | cons y b =>
     simp only [List.length_cons] at h
     by_cases hk : k y < k x
     ·exact h2 x a y b hk (ih _ _ (by simp only [List.length_cons]; omega))
     ·exact h1 x a y b hk (ih _ _ (by simp only [List.length_cons]; omega))
 exact fun a b => h _ a b (Nat.le_refl _)
theorem mrg_perm {α : Type} (k : α -> Nat) : ∀ a b : List α,(mrg k a b).Perm (a ++ b) := by
 refine mrg_ind k ?_ ?_ ?_ ?_
 ·intro b; rw [mrg_nil_left]; exact List.Perm.refl _
 ·intro a; rw [mrg_nil_right,List.append_nil]
 ·intro x a y b h ih
  rw [mrg_cons,if_neg h]
  exact ih.cons x
 ·intro x a y b h ih
  rw [mrg_cons,if_pos h]
  exact (ih.cons y).trans (List.perm_middle.symm)
theorem mrg_length {α : Type} (k : α -> Nat) (a b : List α) : (mrg k a b).length = a.length + b.length := by
 rw [(mrg_perm k a b).length_eq,List.length_append]
def Up {α : Type} (k : α -> Nat) (l : List α) : Prop := l.Pairwise fun x y => k x <= k y
theorem mrg_up {α : Type} (k : α -> Nat) : ∀ a b : List α,Up k a -> Up k b -> Up k (mrg k a b) := by
 refine mrg_ind k ?_ ?_ ?_ ?_
 ·intro b _ h; rw [mrg_nil_left]; exact h
 ·intro a h _; rw [mrg_nil_right]; exact h
 ·intro x a y b h ih ha hb
  rw [mrg_cons,if_neg h]
  have h1 := List.pairwise_cons.1 ha
  have h2 := List.pairwise_cons.1 hb
  refine List.pairwise_cons.2 ⟨fun z hz => ?_,ih h1.2 hb⟩
  rcases List.mem_append.1 ((mrg_perm k _ _).mem_iff.1 hz) with hz | hz
  ·exact h1.1 z hz
  ·rcases List.mem_cons.1 hz with rfl | hz
   ·omega
   ·have := h2.1 z hz; omega
 ·intro x a y b h ih ha hb
  rw [mrg_cons,if_pos h]
  have h1 := List.pairwise_cons.1 ha
  have h2 := List.pairwise_cons.1 hb
  refine List.pairwise_cons.2 ⟨fun z hz => ?_,ih ha h2.2⟩
  rcases List.mem_append.1 ((mrg_perm k _ _).mem_iff.1 hz) with hz | hz
  ·rcases List.mem_cons.1 hz with rfl | hz
   ·omega
   ·have := h1.1 z hz; omega
  ·exact h2.1 z hz
def na {α : Type} (k : α -> Nat) : Nat -> List α -> List α -> Nat
 | 0,_,_ => 0
 | _ + 1,[],_ => 0
 | m + 1,_ :: a,[] => min (m + 1) (a.length + 1)
 | m + 1,x :: a,y :: b => if k y < k x then na k m (x :: a) b else na k m a (y :: b) + 1
theorem na_le {α : Type} (k : α -> Nat) (m : Nat) : ∀ a b : List α,na k m a b <= m /\ na k m a b <= a.length := by
 induction m with
 | zero => intro a b; simp [na]
 | succ m ih =>
  intro a b
  cases a with
  | nil => simp [na]
  | cons x a =>
   cases b with
   | nil => simp only [na,List.length_cons]; omega
   | cons y b =>
    simp only [na]
    by_cases h : k y < k x
    ·rw [if_pos h]; have := ih (x :: a) b; omega
    ·rw [if_neg h]; have := ih a (y :: b); simp only [List.length_cons]; omega
theorem na_rest {α : Type} (k : α -> Nat) (m : Nat) : ∀ a b : List α,m <= a.length + b.length -> m - na k m a b <= b.length := by
 induction m with
 | zero => intro a b; simp
 | succ m ih =>
  intro a b h
  cases a with
  | nil => simp [na] at h ⊢; omega
  | cons x a =>
   cases b with
   | nil => simp only [na,List.length_cons,List.length_nil] at h ⊢; omega
   | cons y b =>
    simp only [na]
    simp only [List.length_cons] at h
    by_cases hk : k y < k x
    ·rw [if_pos hk]; have := ih (x :: a) b (by simp only [List.length_cons]; omega); have := (na_le k m (x :: a) b).1; simp only [List.length_cons]; omega
    ·rw [if_neg hk]; have := ih a (y :: b) (by simp only [List.length_cons]; omega); simp only [List.length_cons] at this ⊢; omega
theorem mrg_take {α : Type} (k : α -> Nat) (m : Nat) : ∀ a b : List α,m <= a.length + b.length -> ((mrg k a b).take m).Perm (a.take (na k m a b) ++ b.take (m - na k m a b)) := by
 induction m with
 | zero => intro a b _; simp [na]
 | succ m ih =>
  intro a b h
  cases a with
  | nil => rw [mrg_nil_left]; simp [na]
  | cons x a =>
   cases b with
   | nil =>
    rw [mrg_nil_right]
    simp only [na,List.take_nil,List.append_nil]
    have e : (x :: a).take (m + 1) = (x :: a).take (min (m + 1) (a.length + 1)) := by
     rw [show a.length + 1 = (x :: a).length from rfl,<- List.take_take,List.take_of_length_le (l := x :: a) (i := (x :: a).length) (Nat.le_refl _)]
    rw [e]
   | cons y b =>
    simp only [List.length_cons] at h
    simp only [na]
    rw [mrg_cons]
    by_cases hk : k y < k x
    ·rw [if_pos hk,if_pos hk,List.take_succ_cons]
     have h1 := ih (x :: a) b (by simp only [List.length_cons]; omega)
     have h2 := (na_le k m (x :: a) b).1
     rw [show m + 1 - na k m (x :: a) b = (m - na k m (x :: a) b) + 1 by omega,List.take_succ_cons]
     exact (h1.cons y).trans (List.perm_middle.symm)
    ·rw [if_neg hk,if_neg hk,List.take_succ_cons,List.take_succ_cons]
     have h1 := ih a (y :: b) (by simp only [List.length_cons]; omega)
     rw [show m + 1 - (na k m a (y :: b) + 1) = m - na k m a (y :: b) by omega]
     exact h1.cons x
theorem gap {α : Type} (k : α -> Nat) (m : Nat) : ∀ a b : List α,Up k a -> ∀ y z,0 < m - na k m a b -> b[m - na k m a b - 1]? = some y -> a[na k m a b]? = some z -> k y < k z := by
 induction m with
 | zero => intro a b _ y z h; simp at h
 | succ m ih =>
  intro a b hu y z h hy hz
  cases a with
  | nil => simp at hz
  | cons x a =>
   cases b with
   | nil => simp at hy
   | cons u b =>
    simp only [na] at h hy hz
    by_cases hk : k u < k x
    ·rw [if_pos hk] at h hy hz
     by_cases h0 : 0 < m - na k m (x :: a) b
     ·rw [show m + 1 - na k m (x :: a) b - 1 = (m - na k m (x :: a) b - 1) + 1 by omega,List.getElem?_cons_succ] at hy
      exact ih (x :: a) b hu y z h0 hy hz
     ·have h1 := (na_le k m (x :: a) b).1
      rw [show m + 1 - na k m (x :: a) b - 1 = 0 by omega,List.getElem?_cons_zero] at hy
      cases hy
      have hm : z ∈ x :: a := List.mem_of_getElem? hz
      have hp := List.pairwise_cons.1 hu
      rcases List.mem_cons.1 hm with rfl | hm
      ·exact hk
      ·have := hp.1 z hm; omega
    ·rw [if_neg hk] at h hy hz
     rw [List.getElem?_cons_succ] at hz
     rw [show m + 1 - (na k m a (u :: b) + 1) = m - na k m a (u :: b) by omega] at h hy
     exact ih a (u :: b) (List.pairwise_cons.1 hu).2 y z h hy hz
def prs {α : Type} (ad : α -> α -> α) : List α -> List α
 | x :: y :: r => ad x y :: prs ad r
 | _ => []
theorem prs_length {α : Type} (ad : α -> α -> α) : ∀ l : List α,(prs ad l).length = l.length / 2
 | [] => by simp [prs]
 | [_] => by simp [prs]
 | x :: y :: r => by simp only [prs,List.length_cons,prs_length ad r]; omega
theorem prs_take {α : Type} (ad : α -> α -> α) : ∀ (l : List α) (p : Nat),(prs ad l).take p = prs ad (l.take (2 * p))
 | [],p => by simp [prs]
 | [x],p => by
  cases p with
  | zero => simp [prs]
  | succ p => rw [show 2 * (p + 1) = (2 * p + 1) + 1 by omega,List.take_succ_cons,List.take_nil]; simp [prs]
 | x :: y :: r,p => by
  cases p with
  | zero => simp [prs]
  | succ p => rw [show 2 * (p + 1) = 2 * p + 1 + 1 by omega,List.take_succ_cons,List.take_succ_cons]; simp only [prs,List.take_succ_cons,prs_take ad r p]
theorem prs_get {α : Type} (ad : α -> α -> α) : ∀ (l : List α) (q : Nat) (z : α),(prs ad l)[q]? = some z -> ∃ x y,l[2 * q]? = some x /\ l[2 * q + 1]? = some y /\ z = ad x y
 | [],q,z,h => by simp [prs] at h
 | [x],q,z,h => by simp [prs] at h
 | x :: y :: r,q,z,h => by
  cases q with
  | zero => simp [prs] at h; exact ⟨x,y,rfl,rfl,h.symm⟩
  | succ q =>
   simp only [prs,List.getElem?_cons_succ] at h
   obtain ⟨u,v,h1,h2,h3⟩ := prs_get ad r q z h
   refine ⟨u,v,?_,?_,h3⟩
   ·rw [show 2 * (q + 1) = 2 * q + 1 + 1 by omega]; exact h1
   ·rw [show 2 * (q + 1) + 1 = 2 * q + 1 + 1 + 1 by omega]; exact h2
theorem prs_snoc {α : Type} (ad : α -> α -> α) (x y : α) : ∀ (l : List α),l.length % 2 = 0 -> prs ad (l ++ [x,y]) = prs ad l ++ [ad x y]
 | [],_ => rfl
 | [_],h => by simp at h
 | u :: v :: r,h => by
  simp only [List.cons_append,prs]
  rw [prs_snoc ad x y r (by simp only [List.length_cons] at h; omega)]
def sm {α : Type} (c : α -> Nat) (l : List α) : Nat := (l.map c).sum
theorem sm_nil {α : Type} (c : α -> Nat) : sm c [] = 0 := rfl
theorem sm_cons {α : Type} (c : α -> Nat) (x : α) (l : List α) : sm c (x :: l) = c x + sm c l := by simp [sm]
theorem sm_append {α : Type} (c : α -> Nat) (a b : List α) : sm c (a ++ b) = sm c a + sm c b := by simp [sm]
theorem sm_perm {α : Type} (c : α -> Nat) {a b : List α} (h : a.Perm b) : sm c a = sm c b := (h.map c).sum_nat
theorem sm_prs {α : Type} (ad : α -> α -> α) (c : α -> Nat) (hc : ∀ x y,c (ad x y) = c x + c y) : ∀ l : List α,l.length % 2 = 0 -> sm c (prs ad l) = sm c l
 | [],_ => rfl
 | [_],h => by simp at h
 | x :: y :: r,h => by
  simp only [prs,sm_cons,hc]
  rw [sm_prs ad c hc r (by simp only [List.length_cons] at h; omega)]; omega
theorem prs_up {α : Type} (k : α -> Nat) (ad : α -> α -> α) (hk : ∀ x y,k (ad x y) = k x + k y) : ∀ l : List α,Up k l -> Up k (prs ad l)
 | [],_ => List.Pairwise.nil
 | [_],_ => List.Pairwise.nil
 | x :: y :: r,h => by
  have h1 := List.pairwise_cons.1 h
  have h2 := List.pairwise_cons.1 h1.2
  refine List.pairwise_cons.2 ⟨fun z hz => ?_,prs_up k ad hk r h2.2⟩
  obtain ⟨q,hq⟩ := List.getElem?_of_mem hz
  obtain ⟨u,v,e1,e2,rfl⟩ := prs_get ad r q z hq
  rw [hk,hk]
  have g1 := h1.1 u (List.mem_cons_of_mem _ (List.mem_of_getElem? e1))
  have g2 := h2.1 v (List.mem_of_getElem? e2)
  omega
def lvl {α : Type} (k : α -> Nat) (ad : α -> α -> α) (S : List α) : Nat -> List α
 | 0 => S
 | j + 1 => mrg k S (prs ad (lvl k ad S j))
theorem lvl_up {α : Type} (k : α -> Nat) (ad : α -> α -> α) (hk : ∀ x y,k (ad x y) = k x + k y) (S : List α) (h : Up k S) (j : Nat) : Up k (lvl k ad S j) := by
 induction j with
 | zero => exact h
 | succ j ih => exact mrg_up k _ _ h (prs_up k ad hk _ ih)
theorem lvl_length {α : Type} (k : α -> Nat) (ad : α -> α -> α) (S : List α) (j : Nat) : (lvl k ad S (j + 1)).length = S.length + (lvl k ad S j).length / 2 := by
 simp only [lvl,mrg_length,prs_length]
theorem lvl_le {α : Type} (k : α -> Nat) (ad : α -> α -> α) (S : List α) (j : Nat) : (lvl k ad S j).length <= 2 * S.length := by
 induction j with
 | zero => simp only [lvl]; omega
 | succ j ih => rw [lvl_length]; omega
theorem lvl_long {α : Type} (k : α -> Nat) (ad : α -> α -> α) (S : List α) (hS : 1 <= S.length) (j : Nat) : 2 * S.length <= (lvl k ad S j).length + (S.length - 1) / 2 ^ j + 1 := by
 induction j with
 | zero => simp only [lvl,Nat.pow_zero,Nat.div_one]; omega
 | succ j ih =>
  rw [lvl_length,Nat.pow_succ,<- Nat.div_div_eq_div_mul]
  generalize (S.length - 1) / 2 ^ j = d at ih ⊢
  omega
theorem lvl_enough {α : Type} (k : α -> Nat) (ad : α -> α -> α) (S : List α) (hS : 2 <= S.length) (j : Nat) (h : S.length <= 2 ^ (j + 1)) : 2 * S.length - 2 <= (lvl k ad S j).length := by
 have h1 := lvl_long k ad S (by omega) j
 have h2 : (S.length - 1) / 2 ^ j <= 1 := by
  have : (S.length - 1) / 2 ^ j < 2 := (Nat.div_lt_iff_lt_mul (Nat.two_pow_pos j)).2 (by rw [Nat.pow_succ] at h; omega)
  omega
 omega
def sel {α : Type} (k : α -> Nat) (ad : α -> α -> α) (S : List α) : Nat -> Nat -> List Nat
 | 0,m => [m]
 | j + 1,m => na k m S (prs ad (lvl k ad S j)) :: sel k ad S j (2 * (m - na k m S (prs ad (lvl k ad S j))))
theorem sel_length {α : Type} (k : α -> Nat) (ad : α -> α -> α) (S : List α) (j : Nat) : ∀ m,(sel k ad S j m).length = j + 1 := by
 induction j with
 | zero => intro m; rfl
 | succ j ih => intro m; simp only [sel,List.length_cons,ih]
theorem half_le {α : Type} (k : α -> Nat) (ad : α -> α -> α) (S : List α) (j m : Nat) (h : m <= (lvl k ad S (j + 1)).length) : 2 * (m - na k m S (prs ad (lvl k ad S j))) <= (lvl k ad S j).length := by
 have h1 := na_rest k m S (prs ad (lvl k ad S j)) (by rw [lvl_length] at h; rw [prs_length]; exact h)
 rw [prs_length] at h1
 omega
theorem sel_sum {α : Type} (k : α -> Nat) (ad : α -> α -> α) (S : List α) (c : α -> Nat) (hc : ∀ x y,c (ad x y) = c x + c y) (j : Nat) :
  ∀ m,m <= (lvl k ad S j).length -> sm c ((lvl k ad S j).take m) = sm (fun s => sm c (S.take s)) (sel k ad S j m) := by
 induction j with
 | zero => intro m _; simp [sel,sm,lvl]
 | succ j ih =>
  intro m h
  have h1 := half_le k ad S j m h
  have h2 : m <= S.length + (prs ad (lvl k ad S j)).length := by rw [lvl_length] at h; rw [prs_length]; exact h
  rw [show lvl k ad S (j + 1) = mrg k S (prs ad (lvl k ad S j)) from rfl,sm_perm c (mrg_take k m _ _ h2),sm_append,prs_take,sm_prs ad c hc _ (by rw [List.length_take]; omega),ih _ h1,sel,sm_cons]
def wsum : List Nat -> Nat
 | [] => 0
 | s :: r => s * 2 ^ r.length + wsum r
theorem sel_wsum {α : Type} (k : α -> Nat) (ad : α -> α -> α) (S : List α) (j : Nat) : ∀ m,wsum (sel k ad S j m) = m * 2 ^ j := by
 induction j with
 | zero => intro m; simp [sel,wsum]
 | succ j ih =>
  intro m
  have h1 := (na_le k m S (prs ad (lvl k ad S j))).1
  simp only [sel,wsum,ih,sel_length]
  generalize na k m S (prs ad (lvl k ad S j)) = s at h1
  obtain ⟨p,rfl⟩ : ∃ p,m = s + p := ⟨m - s,by omega⟩
  rw [show s + p - s = p by omega,Nat.add_mul,Nat.pow_succ,Nat.mul_comm 2 p,Nat.mul_assoc p 2,Nat.mul_comm 2 (2 ^ j)]
theorem sel_head {α : Type} (k : α -> Nat) (ad : α -> α -> α) (S : List α) (j m : Nat) (h : m <= (lvl k ad S j).length) :
  ∃ s r,sel k ad S j m = s :: r /\ s <= S.length /\ s <= m /\ ∀ i z,i < s -> S[i]? = some z -> z ∈ (lvl k ad S j).take m := by
 cases j with
 | zero =>
  refine ⟨m,[],rfl,h,Nat.le_refl _,fun i z hi hz => ?_⟩
  have : (S.take m)[i]? = some z := by rw [List.getElem?_take_of_lt hi]; exact hz
  exact List.mem_of_getElem? this
 | succ j =>
  have h2 : m <= S.length + (prs ad (lvl k ad S j)).length := by rw [lvl_length] at h; rw [prs_length]; exact h
  refine ⟨_,_,rfl,(na_le k m _ _).2,(na_le k m _ _).1,fun i z hi hz => ?_⟩
  refine (mrg_take k m _ _ h2).mem_iff.2 (List.mem_append_left _ ?_)
  have : (S.take (na k m S (prs ad (lvl k ad S j))))[i]? = some z := by rw [List.getElem?_take_of_lt hi]; exact hz
  exact List.mem_of_getElem? this
theorem up_last {α : Type} (k : α -> Nat) (l : List α) (h : Up k l) (m : Nat) (z y : α) (hz : z ∈ l.take m) (hm : m <= l.length) (hy : l[m - 1]? = some y) : k z <= k y := by
 obtain ⟨i,hi⟩ := List.getElem?_of_mem hz
 have him : i < m := by
  have := (List.getElem?_eq_some_iff.1 hi).1
  rw [List.length_take] at this; omega
 rw [List.getElem?_take_of_lt him] at hi
 by_cases e : i = m - 1
 ·rw [e,hy] at hi; cases hi; exact Nat.le_refl _
 ·have h1 := List.getElem?_eq_some_iff.1 hi
  have h2 := List.getElem?_eq_some_iff.1 hy
  obtain ⟨g1,rfl⟩ := h1
  obtain ⟨g2,rfl⟩ := h2
  exact List.pairwise_iff_getElem.1 h i (m - 1) g1 g2 (by omega)
theorem pair_above {α : Type} (k : α -> Nat) (ad : α -> α -> α) (hk : ∀ x y,k (ad x y) = k x + k y) (l : List α) (h : Up k l) (p : Nat) (hp : 0 < p) (hl : 2 * p <= l.length) (z y : α) (hz : z ∈ l.take (2 * p)) (hy : (prs ad l)[p - 1]? = some y) : k z <= k y := by
 obtain ⟨u,v,_,e2,rfl⟩ := prs_get ad l (p - 1) y hy
 have := up_last k l h (2 * p) z v hz hl (by rw [show 2 * p - 1 = 2 * (p - 1) + 1 by omega]; exact e2)
 rw [hk]; omega
theorem sel_down {α : Type} (k : α -> Nat) (ad : α -> α -> α) (hk : ∀ x y,k (ad x y) = k x + k y) (S : List α) (hS : Up k S) (j : Nat) :
  ∀ m,m <= (lvl k ad S j).length -> (sel k ad S j m).Pairwise (fun x y => y <= x) := by
 induction j with
 | zero => intro m _; exact List.pairwise_singleton _ _
 | succ j ih =>
  intro m h
  have h1 := half_le k ad S j m h
  have hr := ih _ h1
  obtain ⟨s,r,e,f1,f2,f3⟩ := sel_head k ad S j _ h1
  have hd : s <= na k m S (prs ad (lvl k ad S j)) := by
   refine Nat.le_of_not_lt fun hlt => ?_
   have h0 : 0 < m - na k m S (prs ad (lvl k ad S j)) := by omega
   have hin : na k m S (prs ad (lvl k ad S j)) < S.length := by omega
   have hpl : m - na k m S (prs ad (lvl k ad S j)) - 1 < (prs ad (lvl k ad S j)).length := by rw [prs_length]; omega
   have hz := List.getElem?_eq_getElem hin
   have hy := List.getElem?_eq_getElem hpl
   have g1 := gap k m S _ hS _ _ h0 hy hz
   have g2 := pair_above k ad hk _ (lvl_up k ad hk S hS j) _ h0 h1 _ _ (f3 _ _ hlt hz) hy
   omega
  simp only [sel]
  rw [e] at hr ⊢
  refine List.pairwise_cons.2 ⟨fun z hz => ?_,hr⟩
  rcases List.mem_cons.1 hz with rfl | hz
  ·exact hd
  ·have := (List.pairwise_cons.1 hr).1 z hz; omega
theorem sel_top {α : Type} (k : α -> Nat) (ad : α -> α -> α) (hk : ∀ x y,k (ad x y) = k x + k y) (S : List α) (hS : Up k S) (hn : 2 <= S.length) (j : Nat) :
  2 * S.length - 2 <= (lvl k ad S j).length -> ∃ r,sel k ad S j (2 * S.length - 2) = S.length :: r := by
 induction j with
 | zero =>
  intro h
  simp only [lvl] at h
  exact ⟨[],by simp only [sel]; congr 1; omega⟩
 | succ j ih =>
  intro h
  have h2 : 2 * S.length - 2 <= S.length + (prs ad (lvl k ad S j)).length := by rw [lvl_length] at h; rw [prs_length]; exact h
  have h3 := na_rest k (2 * S.length - 2) S _ h2
  have h4 := (na_le k (2 * S.length - 2) S (prs ad (lvl k ad S j))).2
  have hh := half_le k ad S j _ h
  refine ⟨sel k ad S j (2 * (2 * S.length - 2 - na k (2 * S.length - 2) S (prs ad (lvl k ad S j)))),?_⟩
  ·simp only [sel]
   congr 1
   generalize hs : na k (2 * S.length - 2) S (prs ad (lvl k ad S j)) = s at *
   refine Nat.le_antisymm h4 (Nat.le_of_not_lt fun hlt => ?_)
   have hll : 2 * S.length - 2 <= (lvl k ad S j).length := by rw [prs_length] at h3; omega
   obtain ⟨r,hr⟩ := ih hll
   obtain ⟨s',r',e,f1,f2,f3⟩ := sel_head k ad S j _ hll
   rw [hr] at e
   injection e with e1 e2
   subst e1
   have hz : S[S.length - 1]? = some (S[S.length - 1]'(by omega)) := List.getElem?_eq_getElem (by omega)
   have hmem := f3 _ _ (by omega) hz
   have h0 : 0 < 2 * S.length - 2 - s := by omega
   have hpl : 2 * S.length - 2 - s - 1 < (prs ad (lvl k ad S j)).length := by omega
   have hy := List.getElem?_eq_getElem hpl
   have hzs : S[s]? = some (S[s]'hlt) := List.getElem?_eq_getElem hlt
   have g1 := gap k (2 * S.length - 2) S _ hS _ _ (by rw [hs]; exact h0) (by rw [hs]; exact hy) (by rw [hs]; exact hzs)
   have hmem2 : S[S.length - 1]'(by omega) ∈ (lvl k ad S j).take (2 * (2 * S.length - 2 - s)) := by
    obtain ⟨i,hi⟩ := List.getElem?_of_mem hmem
    have him : i < 2 * S.length - 2 := by
     have := (List.getElem?_eq_some_iff.1 hi).1
     rw [List.length_take] at this; omega
    rw [List.getElem?_take_of_lt him] at hi
    refine List.mem_of_getElem? (i := i) ?_
    rw [List.getElem?_take_of_lt (by omega)]; exact hi
   have g2 := pair_above k ad hk _ (lvl_up k ad hk S hS j) _ h0 hh _ _ hmem2 hy
   have g3 : k (S[s]'hlt) <= k (S[S.length - 1]'(by omega)) := by
    by_cases e : s = S.length - 1
    ·simp [e]
    ·exact List.pairwise_iff_getElem.1 hS s (S.length - 1) hlt (by omega) (by omega)
   omega
end Lm
end
end Go.Proofs.YtmgpcbjciioiaaaGreatDoor.Ls
