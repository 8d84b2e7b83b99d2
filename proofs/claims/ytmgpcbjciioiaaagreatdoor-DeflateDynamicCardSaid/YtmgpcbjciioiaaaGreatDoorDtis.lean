import Derived.Test.YtmgpcbjciioiaaaGreatDoorDtal
import Derived.Test.YtmgpcbjciioiaaaGreatDoorKneed
import Derived.Test.YtmgpcbjciioiaaaGreatDoorDlon
import Derived.Test.YtmgpcbjciioiaaaGreatDoorSlone
import Derived.Test.YtmgpcbjciioiaaaGreatDoorMref
import Derived.Test.YtmgpcbjciioiaaaGreatDoorLapp
import Derived.Test.YtmgpcbjciioiaaaGreatDoorJget
import Derived.Test.YtmgpcbjciioiaaaGreatDoorCarg
import Derived.Deep.RegionHeld3
import Derived.Maps.AppendAt
import Derived.ChangeArms
import Derived.DataReads
namespace Go.Proofs.YtmgpcbjciioiaaaGreatDoor
set_option maxRecDepth 100000
set_option maxHeartbeats 8000000
section
open Go.RowKit
namespace Dp
def trim (f : Nat -> Nat) : Nat -> Nat
 | 0 => 0
 | k + 1 => if k = 0 ∨ f k ≠ 0 then k + 1 else trim f k
theorem trim_le (f : Nat -> Nat) : ∀ n,trim f n <= n
 | 0 => Nat.le_refl _
 | k + 1 => by have := trim_le f k; simp only [trim]; split <;> omega
theorem trim_pos (f : Nat -> Nat) : ∀ n,0 < n -> 0 < trim f n
 | 0,h => h
 | k + 1,_ => by
  simp only [trim]
  split
  ·omega
  ·exact trim_pos f k (by omega)
theorem trim_zero (f : Nat -> Nat) : ∀ n i,trim f n <= i -> i < n -> f i = 0
 | 0,_,_,h => absurd h (by omega)
 | k + 1,i,h1,h2 => by
  simp only [trim] at h1
  split at h1
  ·omega
  ·rename_i e
   by_cases e2 : i = k
   ·subst e2
    exact Classical.byContradiction fun h => e (Or.inr h)
   ·exact trim_zero f k i h1 (by omega)
theorem trim_stop (f : Nat -> Nat) (k : Nat) (h : k = 0 ∨ f k ≠ 0) : trim f (k + 1) = k + 1 := by simp only [trim]; rw [if_pos h]
theorem trim_next (f : Nat -> Nat) (k : Nat) (h : ¬ (k = 0 ∨ f k ≠ 0)) : trim f (k + 1) = trim f k := by simp only [trim]; rw [if_neg h]
def best (fs : List Nat) : List Nat := (List.range (trim (Ls.Lm.len fs 15) fs.length)).map (Ls.Lm.len fs 15)
theorem best_length (fs : List Nat) : (best fs).length = trim (Ls.Lm.len fs 15) fs.length := by simp [best]
theorem best_lt (fs : List Nat) (i : Nat) (h : i < (best fs).length) : Hf.ln (best fs) i = Ls.Lm.len fs 15 i := by
 rw [best_length] at h
 simp [Hf.ln,best,h]
theorem best_ge (fs : List Nat) (i : Nat) (h : (best fs).length <= i) : Hf.ln (best fs) i = 0 := by
 unfold Hf.ln; rw [List.getElem?_eq_none h]; rfl
theorem best_ln (fs : List Nat) (i : Nat) (hi : i < fs.length) : Hf.ln (best fs) i = Ls.Lm.len fs 15 i := by
 by_cases h : i < (best fs).length
 ·exact best_lt fs i h
 ·rw [best_ge fs i (by omega)]
  rw [best_length] at h
  exact (trim_zero _ fs.length i (by omega) hi).symm
theorem srt_few (fs : List Nat) (hl : fs.length <= 288) : (Ls.Lm.srt fs).length <= 2 ^ 15 := by
 rw [Ls.Lm.srt_length]
 have := Ls.Lm.usd_length fs fs.length
 have : (2 : Nat) ^ 15 = 32768 := rfl
 omega
theorem best_15 (fs : List Nat) (hl : fs.length <= 288) (i : Nat) : Hf.ln (best fs) i <= 15 := by
 by_cases h : i < (best fs).length
 ·rw [best_lt fs i h]; exact Ls.Lm.len_le fs 15 (by omega) (srt_few fs hl) i
 ·rw [best_ge fs i (by omega)]; omega
theorem best_used (fs : List Nat) (hl : fs.length <= 288) (i : Nat) : Hf.ln (best fs) i ≠ 0 ↔ fs[i]?.getD 0 ≠ 0 := by
 rcases Nat.lt_or_ge i fs.length with hi | hi
 ·rw [best_ln fs i hi]
  constructor
  ·intro h e
   exact h (Ls.Lm.len_unused fs 15 i (by omega) (srt_few fs hl) e)
  ·intro h
   have := Ls.Lm.len_used fs 15 i (by omega) (srt_few fs hl) hi h
   omega
 ·rw [best_ge fs i (by have := trim_le (Ls.Lm.len fs 15) fs.length; rw [best_length]; omega),List.getElem?_eq_none hi]
  simp
theorem best_tk (fs : List Nat) (n : Nat) (hn : n <= fs.length) : Hf.tk (best fs) (fun x => decide (0 < x)) n = Ls.Lm.sumTo (fun i => if 0 < Ls.Lm.len fs 15 i then 2 ^ (15 - Ls.Lm.len fs 15 i) else 0) n := by
 induction n with
 | zero => rfl
 | succ k ih =>
  simp only [Hf.tk,Ls.Lm.sumTo]
  rw [ih (by omega),best_ln fs k (by omega)]
  simp
theorem tk_more (ls : List Nat) : ∀ n,Hf.tk ls (fun x => decide (0 < x)) (ls.length + n) = Hf.tk ls (fun x => decide (0 < x)) ls.length
 | 0 => rfl
 | n + 1 => by
  rw [<- Nat.add_assoc]
  simp only [Hf.tk]
  rw [tk_more ls n]
  have : Hf.ln ls (ls.length + n) = 0 := by unfold Hf.ln; rw [List.getElem?_eq_none (by omega)]; rfl
  rw [this]
  simp
theorem best_takes (fs : List Nat) (hl : fs.length <= 288) : takes (best fs) = if (Ls.Lm.srt fs).length < 2 then (Ls.Lm.srt fs).length * 16384 else 32768 := by
 have h1 := takes_tk (best fs) (fun i _ => best_15 fs hl i) (best fs).length (Nat.le_refl _)
 have h2 := trim_le (Ls.Lm.len fs 15) fs.length
 rw [<- best_length] at h2
 have h3 := tk_more (best fs) (fs.length - (best fs).length)
 rw [show (best fs).length + (fs.length - (best fs).length) = fs.length by omega,best_tk fs _ (Nat.le_refl _),Ls.Lm.take15 fs 15 (by omega) (by omega) (srt_few fs hl)] at h3
 unfold takes
 rw [h1,h3]
theorem best_valid (fs : List Nat) (h0 : 0 < fs.length) (hl : fs.length <= 288) : Valid (Hd.zz (best fs)) := by
 have h2 := trim_le (Ls.Lm.len fs 15) fs.length
 have h3 := trim_pos (Ls.Lm.len fs 15) fs.length h0
 rw [<- best_length] at h2 h3
 refine ⟨by rw [Hd.zz_length]; exact h3,by rw [Hd.zz_length]; omega,fun i _ => ?_⟩
 rw [Hd.zz_get]
 have : (best fs)[i]?.getD 0 <= 15 := best_15 fs hl i
 omega
theorem best_fit (fs : List Nat) (h0 : 0 < fs.length) (hl : fs.length <= 288) : Fit (Hd.zz (best fs)) := by
 unfold Fit chk
 rw [if_pos (best_valid fs h0 hl),Hd.nat_zz,best_takes fs hl]
 unfold cmpr
 by_cases h : (Ls.Lm.srt fs).length < 2
 ·rw [if_pos h]
  rw [if_neg (by omega),if_pos (by omega)]
  exact Or.inr rfl
 ·rw [if_neg h]
  exact Or.inl rfl
theorem best_new (fs : List Nat) (hl : fs.length <= 288) (i : Nat) (h : fs[i]?.getD 0 ≠ 0) : newE (Hd.zz (best fs)) = 0 := by
 have hi : i < fs.length := by
  rcases Nat.lt_or_ge i fs.length with h1 | h1
  ·exact h1
  ·rw [List.getElem?_eq_none h1] at h; exact absurd rfl h
 have hin := Ls.Lm.srt_in fs i hi h
 have hc : chk (Hd.zz (best fs)) = cmpr (if (Ls.Lm.srt fs).length < 2 then (Ls.Lm.srt fs).length * 16384 else 32768) := by
  unfold chk
  rw [if_pos (best_valid fs (by omega) hl),Hd.nat_zz,best_takes fs hl]
 unfold newE
 rw [hc,Hd.nat_zz]
 by_cases h2 : (Ls.Lm.srt fs).length < 2
 ·have hone := Ls.Lm.one_srt fs (by omega) _ hin
  have hlen1 : Hf.ln (best fs) i = 1 := by
   rw [best_ln fs i hi]; exact Ls.Lm.len_lone fs 15 (by omega) _ hin
  have honly : ∀ x,Hf.ln (best fs) x ≠ 0 -> x = i := fun x hx => by
   have h3 := (best_used fs hl x).1 hx
   have hxl : x < fs.length := by
    rcases Nat.lt_or_ge x fs.length with h1 | h1
    ·exact h1
    ·rw [List.getElem?_eq_none h1] at h3; exact absurd rfl h3
   have h4 := Ls.Lm.srt_in fs x hxl h3
   rw [hone,List.mem_singleton] at h4
   exact (Prod.mk.inj h4).2
  have hib : i < (best fs).length := by
   rcases Nat.lt_or_ge i (best fs).length with h1 | h1
   ·exact h1
   ·rw [best_ge fs i h1] at hlen1; omega
  have hlone : Lone (best fs) := by
   obtain ⟨k,hk,hki⟩ := Hf.sy_of (best fs) i hib (by omega) (by omega)
   have hall : ∀ j,j < (Hf.ordl (best fs)).length -> Hf.sy (best fs) j = i := fun j hj => honly _ (by have := (Hf.sy_mem (best fs) j hj).2.1; omega)
   have e1 : (Hf.ordl (best fs)).length = 1 := by
    rcases Nat.lt_or_ge 1 (Hf.ordl (best fs)).length with h1 | h1
    ·have := Hf.sy_inj (best fs) 0 1 (by omega) h1 ((hall 0 (by omega)).trans (hall 1 h1).symm)
     omega
    ·omega
   exact ⟨e1,by rw [hall 0 (by omega)]; exact hlen1⟩
  rw [hone]
  rw [if_pos ⟨rfl,hlone⟩]
 ·rw [if_neg h2]
  rfl
theorem best_none (fs : List Nat) (hl : fs.length <= 288) (h : ∀ i : Nat,fs[i]?.getD 0 = 0) : ∀ x ∈ best fs,x = 0 := by
 intro x hx
 obtain ⟨i,hi⟩ := List.getElem?_of_mem hx
 have h1 : Hf.ln (best fs) i = x := by unfold Hf.ln; rw [hi]; rfl
 by_cases e : x = 0
 ·exact e
 ·exact absurd (h i) ((best_used fs hl i).1 (by rw [h1]; exact e))
end Dp
def BstPost (w : World) (fs : List Nat) (e : Ending) (w' : World) : Prop :=
 ∃ C,e = .returned (.tuple #[.slice (some ⟨C,0,none⟩) (Dp.best fs).length fs.length,.int .i64 0]) /\ w.heap.size <= C /\ C < w'.heap.size /\ (∀ i,i < (Dp.best fs).length -> w'.cell? ⟨C,i,none⟩ = some (.int .i64 ((Hf.ln (Dp.best fs) i : Nat) : Int))) /\ Below w.heap.size w w'
theorem best_ok (fs : List Nat) (s : Value) (w : World) (hz : Zl w s (Hd.zz fs)) (h0 : 0 < fs.length) (hl : fs.length <= 288) (hv : ∀ i : Nat,fs[i]?.getD 0 <= 4294967295) :
  Calls Tryz.prog 73 #[s] w (BstPost w fs) := by
 have HL := LH (Ls.lengths_ok (Hd.zz fs) s 15 w hz ⟨by rw [Hd.zz_length]; exact h0,by rw [Hd.zz_length]; exact hl,fun i _ => by rw [Hd.zz_get]; have := hv i; omega⟩ (by omega) (by omega) (by rw [Hd.nat_zz]; exact Dp.srt_few fs hl))
 rw [Hd.nat_zz] at HL
 obtain ⟨a,len,cap,rfl,hlen⟩ := hz.shape
 have HN := LH (fun _ : Unit => Dp.best_length fs)
 have HT := LH (fun i => Dp.best_lt fs i)
 have HLE := LH (fun i => Ls.Lm.len_le fs 15 (by omega) (Dp.srt_few fs hl) i)
 obtain ⟨f,hf⟩ : ∃ f,f = Ls.Lm.len fs 15 := ⟨_,rfl⟩
 obtain ⟨n,hn⟩ : ∃ n,n = fs.length := ⟨_,rfl⟩
 rw [<- hn] at HN h0 hl
 rw [<- hf] at HN HT HLE
 have HF := LH (fun _ : Unit => hf)
 have HFN := LH (fun _ : Unit => hn)
 clear hz hlen hv hf hn
 go_enter Tryz.func73,Tryz.ntmps73
 go_wp2_with fail
 refine (show Calls Tryz.prog 112 #[_,.int .i64 15] _ _ from HL.out).mono ?_
 clear HL
 rintro e w1 ⟨C,rfl,hC,hr,hb⟩
 rw [<- HF.out (),<- HFN.out ()] at hr
 rw [<- HFN.out ()]
 have HR := LH hr
 have HB := LH hb
 have HC := LH (And.intro hC hr.lt)
 clear hr hb hC
 go_wp2_with fail
 go_loopw [4] (fun s4 wr => ∃ k q : Nat,0 < k /\ k <= n /\ s4 = .slice (some ⟨C,0,none⟩) k n /\ Hid (Unit -> Dp.trim f k = Dp.trim f n) /\ wr = w1.drewN q) (fun s _ => match s with | .slice _ k _ => k | _ => 0)
 case atStart => exact ⟨n,0,h0,Nat.le_refl _,rfl,fun _ => rfl,rfl⟩
 case round =>
  obtain ⟨k,q,hk0,hk,rfl,KT,rfl⟩ := hrel
  by_cases h1 : 1 < k
  ·have hc := HR.out.cell (k - 1) (by omega)
   obtain ⟨x,hx⟩ : ∃ x,x = f (k - 1) := ⟨_,rfl⟩
   rw [<- hx] at hc
   have hx15 : x <= 15 := by rw [hx]; exact HLE.out _
   have i1 : decide (1 < (k : Int)) = true := by simp; omega
   have i2 : (0 : Int) <= (k : Int) - 1 := by omega
   have i3 : (k : Int) - 1 < (k : Int) := by omega
   have i4 : ((k : Int) - 1).toNat = k - 1 := by omega
   by_cases hz : x = 0
   ·have hnx : Hid (Unit -> Dp.trim f (k - 1) = Dp.trim f n) := fun _ => by
     have h3 := Dp.trim_next f (k - 1) (by rw [<- hx]; omega)
     rw [show k - 1 + 1 = k by omega] at h3
     rw [<- h3]
     exact KT.out ()
    have hxz : ((x : Nat) : Int) = 0 := by omega
    rw [hxz] at hc
    clear hx hz hxz hx15 KT
    go_wp2_with fail
    go_roundw
    case rel => first | exact ⟨k - 1,q,by omega,by omega,rfl,hnx,rfl⟩ | ((repeat apply Exists.intro); exact ⟨⟨k - 1,q,by omega,by omega,rfl,hnx,rfl⟩,rfl⟩)
    case measure => simp; omega
   ·have hst : Hid (Unit -> k = (Dp.best fs).length) := fun _ => by
     have h3 := Dp.trim_stop f (k - 1) (by rw [<- hx]; omega)
     rw [show k - 1 + 1 = k by omega] at h3
     rw [HN.out (),<- KT.out ()]
     exact h3.symm
    have hxz : ((x : Nat) : Int) ≠ 0 := by omega
    have hxe : (((x : Nat) : Int) == 0) = false := by simp; omega
    clear hx hz hx15 KT
    go_wp2_with fail
    refine bodyPost_ret (v := .tuple #[.slice (some ⟨C,0,none⟩) k n,.int .i64 0]) (by simp [results,Tryz.results73,go_sem]) rfl ?_
    refine ⟨C,by rw [<- hst.out (),<- HFN.out ()],HC.out.1,HC.out.2,fun i hi => ?_,below_drewN HB.out _⟩
    rw [HT.out i hi]
    exact HR.out.cell i (by have := hst.out (); omega)
  ·have i1 : decide (1 < (k : Int)) = false := by simp; omega
   obtain rfl : k = 1 := by omega
   have hst : Hid (Unit -> 1 = (Dp.best fs).length) := fun _ => by
    rw [HN.out (),<- KT.out ()]
    exact (Dp.trim_stop f 0 (Or.inl rfl)).symm
   clear KT
   go_wp2_with fail
   refine bodyPost_ret (v := .tuple #[.slice (some ⟨C,0,none⟩) 1 n,.int .i64 0]) (by simp [results,Tryz.results73,go_sem]) rfl ?_
   refine ⟨C,by rw [<- hst.out (),<- HFN.out ()],HC.out.1,HC.out.2,fun i hi => ?_,below_drewN HB.out _⟩
   rw [HT.out i hi]
   exact HR.out.cell i (by have := hst.out (); omega)
end
section
open Go.RowKit Go.Shelf
def SeqKeep (P : Program) (g : Nat) (first lb : Array Value) (xs : List (Array Value)) (Keep : World -> Prop) : Prop :=
 ∀ (l : Nat) (J : Nat -> World -> Prop) (W : World),(∀ i,Grows W.heap.size (J i)) -> (∀ i W',J i W' -> Keep W') ->
  (∀ i x,xs[i]? = some x -> Goes P W.heap.size l x (J i) (J (i + 1))) -> J 0 W ->
  Calls P g (first ++ #[.func (.yield l) #[] #[]] ++ lb) W fun e W' => (∃ v,e = .returned v) /\ J xs.length W'
section
variable {n : Nat} {P : Program}
theorem range_keep {α : Type} {g : Operand} {ps : Array Tmp} {assign body : Code} {Q : Exit -> Act -> World -> Prop} {a : Act} {w : World}
  {gf : Nat} {first lb : Array Value} (hg : a.eval g = .func (.func gf) first lb) (eg : ∀ args w,(callFunc gf args).run P w = .ok (.enter gf args) w)
  {encs : α -> Array Value} {xs : List α} {Keep : World -> Prop} (hseq : SeqKeep P gf first lb (xs.map encs) Keep) (hps : ∀ x,(encs x).size = ps.size)
  (I : Nat -> World -> Prop) (hKp : ∀ i W,I i W -> Keep W) (hI : ∀ i A B,I i A -> Lo w.heap.size 2 A B -> I i B) (h0 : I 0 w) (a₁ : α -> World -> Act) (asg : α -> World -> World) (hasg : ∀ x W,Below W.heap.size W (asg x W))
  (hassign : ∀ (l : Nat) (x : α) (W : World) (K : Act -> World -> Prop),K (a₁ x W) (asg x W) ->
   assign.wpIn (Fence.wide.inRound l) 9 P (Exit.then K (fun _ _ _ => False)) { tmps := (ps.zip (encs x)).foldl (fun t (p,v) => t.setIfInBounds p v) a.tmps,defers := [] } W)
  (hbody : ∀ (l i : Nat) (x : α) (W0 W : World),xs[i]? = some x -> I i W -> w.heap.size + 2 <= W0.heap.size -> Lo w.heap.size 2 (asg x W0) W -> body.wpIn (Fence.wide.inRound l) 9 P (FixPost w.heap.size (I (i + 1)) W) (a₁ x W0) W)
  (hdone : ∀ (W : World),I xs.length W -> W.heap[w.heap.size]? = some (.deferred (some [])) -> Q .normal { a with defers := { target := .collected w.heap.size,args := #[] } :: a.defers } W) :
  (Code.rangeFunc g ps assign body).wpIn Fence.wide n P Q a w := by
 refine wpIn_rangeFunc fun fn hfn => ?_
 obtain ⟨b,hb⟩ : ∃ b,b = w.heap.size := ⟨_,rfl⟩
 rw [<- hb] at hI hbody hdone
 obtain ⟨rec,hrec⟩ : ∃ r : LoopState -> Loop,r = fun st => { state := st,pending := none,fn,tmps := a.tmps,params := ps,assign,body,defers := w.heap.size } := ⟨_,rfl⟩
 have hW := Lo.of_below (b := b) (m := 2) (below2 w (.deferred (some [])) (.loop (rec .ready)))
 have hD := (Has.new w (.deferred (some []))).alloc (.loop (rec .ready))
 have hL := Has.new (w.alloc (.deferred (some []))) (.loop (rec .ready))
 have hsz : ((w.alloc (.deferred (some []))).alloc (.loop (rec .ready))).heap.size = b + 2 := by simp [hb]
 rw [World.size_alloc,<- hb] at hL
 rw [<- hb] at hD
 have hrun : (Instr.enterLoop fn a.tmps ps assign body none).run P w = .ok (b + 1,[{ target := .collected b,args := #[] }]) ((w.alloc (.deferred (some []))).alloc (.loop (rec .ready))) := by
  rw [hrec,hb]
  exact run_enterLoop_outer _ _ _ _ _
 revert hW hD hL hsz hrun
 generalize (w.alloc (.deferred (some []))).alloc (.loop (rec .ready)) = W1
 intro hW hD hL hsz hrun
 refine ⟨_,_,W1,{ target := .fn (.func gf) lb,args := first ++ #[.func (.yield (b + 1)) #[] #[]] },W1,gf,first ++ #[.func (.yield (b + 1)) #[] #[]] ++ lb,W1,hrun,?_,?_,?_,fun q => (by simp [Fence.wide] at q),?_⟩
 ·simp only [resolve,hg]
  simp [go_sem]
 ·intro f' hf'
  trivial
 ·simp [invoke,go_sem,eg]
 ·refine callsIn_wide.2 ((hseq (b + 1) (fun i W => I i W /\ Has W (b + 1) (.loop (rec .ready)) /\ Has W b (.deferred (some []))) W1 ?_ (fun i W h => hKp i W h.1) ?_ ⟨hI _ _ _ h0 hW,hL,hD⟩).mono ?_)
  ·rintro i A C ⟨i1,i2,i3⟩ hsz2 hbl
   exact ⟨hI _ _ _ i1 (Lo.of_below hbl),i2.later hbl,i3.later hbl⟩
  ·rintro i x' hx' W ⟨hi,hl,hk⟩ hW2
   rw [hsz] at hW2
   rw [List.getElem?_map] at hx'
   obtain ⟨x,hx,rfl⟩ := Option.map_eq_some_iff.1 hx'
   have hba := hasg x W
   have hla := hl.later hba
   have hka := hk.later hba
   have hia := hI _ _ _ hi (Lo.of_below hba)
   have hza := hba.size
   have hlt := hla.lt
   have hy := run_yield (P := P) (args := encs x) hl (by rw [hrec]; exact hps x)
   rw [hrec] at hy
   refine ⟨fn,_,assign,body,hy,roundIn_of_wpIn hfn (hassign _ x W _ ⟨_,run_beginRound hla (by rw [hrec]),?_⟩)⟩
   obtain ⟨busy,hbusy⟩ : ∃ r : Loop,r = { rec .ready with state := .busy } := ⟨_,rfl⟩
   rw [<- hbusy]
   have l1 : Has ((asg x W).putObj (b + 1) (.loop busy)) (b + 1) (.loop busy) := World.putObj_heap_same hlt
   have p1 := (Lo.putObj (asg x W) (b + 1) (.loop busy))
   have hz1 : ((asg x W).putObj (b + 1) (.loop busy)).heap.size = (asg x W).heap.size := by simp
   refine wpIn_mono (hbody _ i x W _ hx (hI _ _ _ hia (p1.wide (by omega) (by omega))) (by omega) (p1.wide (by omega) (by omega))) ?_
   rintro e a3 W3 ⟨rfl,hu3,hi3⟩
   have l3 : Has W3 (b + 1) (.loop busy) := hu3.has l1 (by omega)
   have d3 : Has W3 b (.deferred (some [])) := hu3.has (p1.has hka (Or.inl (by omega))) (Nat.le_refl _)
   have hr := run_endRound (P := P) none l3
   have he : ({ busy with state := .ready,pending := none } : Loop) = rec .ready := by rw [hbusy,hrec]
   have p3 := Lo.putObj W3 (b + 1) (.loop (rec .ready))
   refine ⟨.bool true,W3.putObj (b + 1) (.loop (rec .ready)),?_,rfl,?_,⟨hI _ _ _ hi3 (p3.wide (by omega) (by omega)),World.putObj_heap_same l3.lt,p3.has d3 (Or.inl (by omega))⟩⟩
   ·rw [<- he]; exact hr
   ·rw [hsz]
    exact (Up.of_below hba).trans (((Up.putObj (asg x W) (b + 1) _ (by omega)).trans (hu3.mono (by omega))).trans (Up.putObj W3 (b + 1) _ (by omega)))
  ·rintro e W2 ⟨⟨v,rfl⟩,hi,hl,hk⟩
   rw [List.length_map] at hi
   have hr := run_endLoop (P := P) hl (by rw [hrec]; simp)
   have hp : (rec .ready).pending = none := by rw [hrec]
   rw [hp] at hr
   refine ⟨none,_,hr,?_⟩
   subst hb
   exact hdone _ (hI _ _ _ hi ((Lo.putObj W2 (w.heap.size + 1) _).wide (by omega) (by omega))) ((World.putObj_heap_other (by omega)).trans hk)
end
end
section
open Go.RowKit Go.Shelf
attribute [local go_sem] Oper.semAt_some
def rn1 (o : Nat × Nat) : Array Value := #[.agg #[.int .i64 (o.1 : Int),.int .i64 (o.2 : Int)]]
def RnK (T b off cap : Nat) (ls : List Nat) (W : World) : Prop := Has W T (.cells #[.slice (some ⟨b,off,none⟩) ls.length cap] 57) /\ b < W.heap.size /\ ∀ j,j < ls.length -> W.cell? ⟨b,off + j,none⟩ = some (.int .i64 ((Rn.at1 ls j : Nat) : Int))
def rnL (ls : List Nat) : List (Nat × Nat) := Rn.ops ls (ls.length + 1) 0
theorem rn_step (ls : List Nat) (h15 : ∀ x ∈ ls,x <= 15) (F i at' : Nat) (h : (rnL ls).drop i = Rn.ops ls F at') (hF : ls.length < F + at') (hlt : at' < ls.length) :
  (rnL ls)[i]? = some (Rn.op ls at') /\ ∃ F',(rnL ls).drop (i + 1) = Rn.ops ls F' (at' + Rn.siz ls at') /\ ls.length < F' + (at' + Rn.siz ls at') /\ at' + Rn.siz ls at' <= ls.length := by
 obtain ⟨F',rfl⟩ : ∃ F',F = F' + 1 := ⟨F - 1,by omega⟩
 simp only [Rn.ops] at h
 rw [if_neg (by omega)] at h
 have hs := Rn.siz_le ls h15 at' hlt
 have hr := Rn.run_le ls at'
 have h0 : (rnL ls)[i]? = ((rnL ls).drop i)[0]? := by rw [List.getElem?_drop,Nat.add_zero]
 refine ⟨by rw [h0,h]; rfl,F',?_,by omega,by omega⟩
 rw [<- List.drop_drop,h]
 rfl
theorem rn_end (ls : List Nat) (F i at' : Nat) (h : (rnL ls).drop i = Rn.ops ls F at') (hF : ls.length < F + at') (hge : ls.length <= at') (hi : i <= (rnL ls).length) : i = (rnL ls).length := by
 have : Rn.ops ls F at' = [] := by
  cases F with
  | zero => rfl
  | succ F => simp only [Rn.ops]; rw [if_pos hge]
 rw [this] at h
 have := List.drop_eq_nil_iff.1 h
 omega
theorem runs_seq (ls : List Nat) (h15 : ∀ x ∈ ls,x <= 15) (hl : ls.length <= 1000) (T b off cap : Nat) (hcp : ls.length <= cap) : SeqKeep Tryz.prog 157 #[] #[.pointer (some ⟨T,0,none⟩)] ((rnL ls).map rn1) (RnK T b off cap ls) := by
 intro l J W hJ hK hY h0
 rw [List.length_map]
 show Calls Tryz.prog 157 #[.func (.yield l) #[] #[],.pointer (some ⟨T,0,none⟩)] W _
 have HLN := LH (fun (W' : World) (i : Nat) (hk : RnK T b off cap ls W') (hi : i < ls.length) => longest_is ls i ls.length b off cap W' rfl hi hl hcp hk.2.1 h15 hk.2.2)
 have HSZ := LH (fun (W' : World) (i : Nat) => size_run (Rn.sym ls i) (Rn.num ls i) (Nat.lt_of_lt_of_le (Rn.num_lt ls i) (by have := Hd.ex_le (Rn.sym ls i); exact Nat.pow_le_pow_right (by omega) this)) W')
 have HST := LH (fun F i at' => rn_step ls h15 F i at')
 have HEN := LH (fun F i at' => rn_end ls F i at')
 have HY' := LH (fun (i : Nat) (o : Nat × Nat) (h : (rnL ls)[i]? = some o) => hY i (rn1 o) (by rw [List.getElem?_map,h]; rfl))
 have HJ := LH hJ
 have HK := LH hK
 have H0 := LH h0
 obtain ⟨n,hn⟩ : ∃ n,n = ls.length := ⟨_,rfl⟩
 have HN := LH hn
 have HD0 : Hid ((rnL ls).drop 0 = Rn.ops ls (ls.length + 1) 0 /\ ls.length < ls.length + 1 + 0) := ⟨rfl,by omega⟩
 have hn9 : (n : Int) <= 1000 := by omega
 clear hY hJ hK h0 h15 hl hcp hn
 refine callsIn_wide (n := 9).1 ?_
 refine callsIn_of_wp Tryz.func157 rfl trivial ?_ rfl
 simp only [Tryz.ntmps157,List.size_toArray,List.length_cons,List.length_nil,Nat.reduceAdd,Nat.reduceSub,Array.replicate_succ,Array.replicate_zero,List.push_toArray,List.append_toArray,List.nil_append,List.cons_append]
 gi_wp2
 gi_loopw [3] (fun s3 wr => ∃ i F at' : Nat,s3 = .int .i64 (at' : Int) /\ at' <= n /\ Hid (i <= (rnL ls).length) /\ Hid ((rnL ls).drop i = Rn.ops ls F at' /\ ls.length < F + at') /\ Hid (J i wr) /\ Hid (W.heap.size <= wr.heap.size)) (fun s3 _ => n - (intOf s3).toNat)
 case atStart => exact ⟨0,_,0,rfl,Nat.zero_le _,Nat.zero_le _,HD0,H0,Nat.le_refl W.heap.size⟩
 case round =>
  obtain ⟨i,F,at',rfl,hat,KI,KD,KJ,KS⟩ := hrel
  have hk := HK.out i wr KJ.out
  have t0 := (hk.1.cell 0 : _ = some (Value.slice (some ⟨b,off,none⟩) ls.length cap))
  rw [<- HN.out] at t0
  by_cases hlt : at' < n
  ·have j0 : decide ((at' : Int) < (n : Int)) = true := decide_eq_true (by omega)
   obtain ⟨hop,F2,hd2,hF2,hle2⟩ := HST.out F i at' KD.out.1 KD.out.2 (by rw [<- HN.out]; exact hlt)
   have CL := LH (HLN.out wr at' hk (by rw [<- HN.out]; exact hlt))
   rw [<- HN.out] at CL
   have CS := LH (fun W' => HSZ.out W' at')
   have CY := LH (HY'.out i (Rn.op ls at') hop)
   unfold rn1 Rn.op at CY
   obtain ⟨sy,hsy⟩ : ∃ x,x = Rn.sym ls at' := ⟨_,rfl⟩
   obtain ⟨nu,hnu⟩ : ∃ x,x = Rn.num ls at' := ⟨_,rfl⟩
   obtain ⟨sz,hsz⟩ : ∃ x,x = Rn.siz ls at' := ⟨_,rfl⟩
   have hszd : Hd.least (Rn.sym ls at') + Rn.num ls at' = sz := by rw [hsz]; rfl
   rw [hszd] at CS
   rw [<- hsz] at hd2 hF2 hle2
   rw [<- hsy,<- hnu] at CL CS CY
   have HD2 := LH (And.intro hd2 hF2)
   have HI2 : Hid (i + 1 <= (rnL ls).length) := by have := (List.getElem?_eq_some_iff.1 hop).1; show _ <= _; omega
   have hle3 : at' + sz <= n := by rw [HN.out]; exact hle2
   have hszp : 1 <= sz := by
    rw [<- hszd]
    have := Hd.least_le (Rn.sym ls at')
    omega
   have sm : IntKind.i64.wrap ((at' : Int) + (sz : Int)) = ((at' + sz : Nat) : Int) := by rw [IntWalk.i64_in _ (by omega)]; omega
   clear hsy hnu hsz hszd hd2 hF2 hle2 hop hk
   gi_wp2_with fail
   refine ⟨trivial,(callsIn_wide.2 CL.out).mono ?_⟩
   clear CL
   rintro e w1 ⟨rfl,hb1⟩
   have hn1 : Has (w1.alloc (.cells #[.int .i64 (sy : Int),.int .i64 (nu : Int)] 165)) w1.heap.size (.cells #[.int .i64 (sy : Int),.int .i64 (nu : Int)] 165) := Has.new w1 _
   have hb2 : Below wr.heap.size wr (w1.alloc (.cells #[.int .i64 (sy : Int),.int .i64 (nu : Int)] 165)) := hb1.trans ((below1 w1 _).mono hb1.size)
   have hz2 : W.heap.size <= (w1.alloc (.cells #[.int .i64 (sy : Int),.int .i64 (nu : Int)] 165)).heap.size := Nat.le_trans KS.out hb2.size
   obtain ⟨fn,tmps,assign,body,hy,hR⟩ := CY.out _ (HJ.out i wr _ KJ.out KS.out hb2) hz2
   have HN1 := LH hn1
   have HZ1 := LH (Nat.le_trans KS.out hb1.size)
   have HZ2 := LH hz2
   clear hn1 hb2 hz2 hb1 t0 CY KJ KD KI
   gi_wp2
   refine (roundIn_wide hR).mono ?_
   rintro e W3 ⟨rfl,hu3,hj3⟩
   obtain ⟨r0,r1,-,-⟩ := (hu3.has HN1.out HZ1.out).two
   have KJ3 := LH hj3
   have KS3 := LH (Nat.le_trans HZ2.out hu3.size)
   have CS3 := LH (CS.out W3)
   clear hu3 hj3 hy hR CS HN1 HZ1 HZ2 KS
   gi_wp2_with fail
   refine ⟨trivial,(callsIn_wide.2 CS3.out).mono ?_⟩
   clear CS3
   rintro e W4 ⟨rfl,hb4⟩
   have KJ4 := LH (HJ.out (i + 1) W3 W4 KJ3.out KS3.out hb4)
   have KS4 := LH (Nat.le_trans KS3.out hb4.size)
   clear hb4 KJ3 KS3 r0 r1
   gi_wp2_with fail
   go_roundw
   case rel => exact ⟨i + 1,F2,at' + sz,by first | rfl | simp,by omega,HI2,HD2,KJ4,KS4⟩
   case measure => simp [intOf]; omega
  ·have hiL := HEN.out F i at' KD.out.1 KD.out.2 (by rw [<- HN.out]; omega) KI.out
   have j0 : decide ((at' : Int) < (n : Int)) = false := decide_eq_false (by omega)
   have KJ9 : Hid (J (rnL ls).length wr) := by show J _ _; rw [<- hiL]; exact KJ.out
   clear hiL hk KJ KD KI
   gi_wp2_with fail
   go_end0
   exact ⟨⟨_,rfl⟩,KJ9.out⟩
end
section
namespace Dp
def code7 (fs : List Nat) : List Nat := (List.range fs.length).map (Ls.Lm.len fs 7)
theorem code7_length (fs : List Nat) : (code7 fs).length = fs.length := by simp [code7]
theorem code7_ln (fs : List Nat) (i : Nat) (hi : i < fs.length) : Hf.ln (code7 fs) i = Ls.Lm.len fs 7 i := by simp [Hf.ln,code7,hi]
theorem code7_ge (fs : List Nat) (i : Nat) (h : fs.length <= i) : Hf.ln (code7 fs) i = 0 := by
 unfold Hf.ln; rw [List.getElem?_eq_none (by rw [code7_length]; exact h)]; rfl
theorem srt_few7 (fs : List Nat) (hl : fs.length <= 19) : (Ls.Lm.srt fs).length <= 2 ^ 7 := by
 rw [Ls.Lm.srt_length]
 have := Ls.Lm.usd_length fs fs.length
 have : (2 : Nat) ^ 7 = 128 := rfl
 omega
theorem code7_7 (fs : List Nat) (hl : fs.length <= 19) (i : Nat) : Hf.ln (code7 fs) i <= 7 := by
 by_cases h : i < fs.length
 ·rw [code7_ln fs i h]; exact Ls.Lm.len_le fs 7 (by omega) (srt_few7 fs hl) i
 ·rw [code7_ge fs i (by omega)]; omega
theorem code7_used (fs : List Nat) (hl : fs.length <= 19) (i : Nat) : Hf.ln (code7 fs) i ≠ 0 ↔ fs[i]?.getD 0 ≠ 0 := by
 rcases Nat.lt_or_ge i fs.length with hi | hi
 ·rw [code7_ln fs i hi]
  constructor
  ·intro h e
   exact h (Ls.Lm.len_unused fs 7 i (by omega) (srt_few7 fs hl) e)
  ·intro h
   have := Ls.Lm.len_used fs 7 i (by omega) (srt_few7 fs hl) hi h
   omega
 ·rw [code7_ge fs i hi,List.getElem?_eq_none hi]
  simp
theorem code7_tk (fs : List Nat) (n : Nat) (hn : n <= fs.length) : Hf.tk (code7 fs) (fun x => decide (0 < x)) n = Ls.Lm.sumTo (fun i => if 0 < Ls.Lm.len fs 7 i then 2 ^ (15 - Ls.Lm.len fs 7 i) else 0) n := by
 induction n with
 | zero => rfl
 | succ k ih =>
  simp only [Hf.tk,Ls.Lm.sumTo]
  rw [ih (by omega),code7_ln fs k (by omega)]
  simp
theorem code7_takes (fs : List Nat) (hl : fs.length <= 19) : takes (code7 fs) = if (Ls.Lm.srt fs).length < 2 then (Ls.Lm.srt fs).length * 16384 else 32768 := by
 have h1 := takes_tk (code7 fs) (fun i _ => Nat.le_trans (code7_7 fs hl i) (by omega)) (code7 fs).length (Nat.le_refl _)
 have h3 := code7_tk fs _ (Nat.le_refl _)
 rw [Ls.Lm.take15 fs 7 (by omega) (by omega) (srt_few7 fs hl)] at h3
 unfold takes
 rw [h1,code7_length,h3]
theorem code7_valid (fs : List Nat) (h0 : 0 < fs.length) (hl : fs.length <= 19) : Valid (Hd.zz (code7 fs)) := by
 refine ⟨by rw [Hd.zz_length,code7_length]; exact h0,by rw [Hd.zz_length,code7_length]; omega,fun i _ => ?_⟩
 rw [Hd.zz_get]
 have : (code7 fs)[i]?.getD 0 <= 7 := code7_7 fs hl i
 omega
theorem code7_new (fs : List Nat) (hl : fs.length <= 19) (i : Nat) (h : fs[i]?.getD 0 ≠ 0) : newE (Hd.zz (code7 fs)) = 0 := by
 have hi : i < fs.length := by
  rcases Nat.lt_or_ge i fs.length with h1 | h1
  ·exact h1
  ·rw [List.getElem?_eq_none h1] at h; exact absurd rfl h
 have hin := Ls.Lm.srt_in fs i hi h
 have hc : chk (Hd.zz (code7 fs)) = cmpr (if (Ls.Lm.srt fs).length < 2 then (Ls.Lm.srt fs).length * 16384 else 32768) := by
  unfold chk
  rw [if_pos (code7_valid fs (by omega) hl),Hd.nat_zz,code7_takes fs hl]
 unfold newE
 rw [hc,Hd.nat_zz]
 by_cases h2 : (Ls.Lm.srt fs).length < 2
 ·have hone := Ls.Lm.one_srt fs (by omega) _ hin
  have hlen1 : Hf.ln (code7 fs) i = 1 := by
   rw [code7_ln fs i hi]; exact Ls.Lm.len_lone fs 7 (by omega) _ hin
  have honly : ∀ x,Hf.ln (code7 fs) x ≠ 0 -> x = i := fun x hx => by
   have h3 := (code7_used fs hl x).1 hx
   have hxl : x < fs.length := by
    rcases Nat.lt_or_ge x fs.length with h1 | h1
    ·exact h1
    ·rw [List.getElem?_eq_none h1] at h3; exact absurd rfl h3
   have h4 := Ls.Lm.srt_in fs x hxl h3
   rw [hone,List.mem_singleton] at h4
   exact (Prod.mk.inj h4).2
  have hib : i < (code7 fs).length := by rw [code7_length]; exact hi
  have hlone : Lone (code7 fs) := by
   obtain ⟨k,hk,hki⟩ := Hf.sy_of (code7 fs) i hib (by omega) (by omega)
   have hall : ∀ j,j < (Hf.ordl (code7 fs)).length -> Hf.sy (code7 fs) j = i := fun j hj => honly _ (by have := (Hf.sy_mem (code7 fs) j hj).2.1; omega)
   have e1 : (Hf.ordl (code7 fs)).length = 1 := by
    rcases Nat.lt_or_ge 1 (Hf.ordl (code7 fs)).length with h1 | h1
    ·have := Hf.sy_inj (code7 fs) 0 1 (by omega) h1 ((hall 0 (by omega)).trans (hall 1 h1).symm)
     omega
    ·omega
   exact ⟨e1,by rw [hall 0 (by omega)]; exact hlen1⟩
  rw [hone]
  rw [if_pos ⟨rfl,hlone⟩]
 ·rw [if_neg h2]
  rfl
def rfq (ls : List Nat) (i : Nat) : List Nat := (List.range 19).map fun s => (((rnL ls).take i).map Prod.fst).count s
theorem rfq_length (ls : List Nat) (i : Nat) : (rfq ls i).length = 19 := by simp [rfq]
theorem rfq_get (ls : List Nat) (i s : Nat) (h : s < 19) : (rfq ls i)[s]?.getD 0 = (((rnL ls).take i).map Prod.fst).count s := by simp [rfq,h]
theorem rfq_zero (ls : List Nat) : rfq ls 0 = List.replicate 19 0 := by
 apply List.ext_getElem (by simp [rfq]) fun i h1 h2 => by rw [List.getElem_replicate]; simp [rfq]
theorem rfq_succ (ls : List Nat) (i : Nat) (o : Nat × Nat) (h : (rnL ls)[i]? = some o) : rfq ls (i + 1) = (rfq ls i).set o.1 ((rfq ls i)[o.1]?.getD 0 + 1) := by
 have hi := (List.getElem?_eq_some_iff.1 h).1
 have et : (rnL ls).take (i + 1) = (rnL ls).take i ++ [o] := by rw [List.take_add_one,h]; rfl
 apply List.ext_getElem?
 intro s
 by_cases hs : s < 19
 ·have e1 : (rfq ls (i + 1))[s]? = some ((rfq ls (i + 1))[s]?.getD 0) := by rw [List.getElem?_eq_getElem (by rw [rfq_length]; exact hs)]; rfl
  rw [e1,rfq_get _ _ _ hs,et,List.map_append,List.count_append]
  by_cases e : o.1 = s
  ·subst e
   rw [List.getElem?_set_self (by rw [rfq_length]; exact hs),rfq_get _ _ _ hs]
   simp
  ·rw [List.getElem?_set_ne e]
   have e2 : (rfq ls i)[s]? = some ((rfq ls i)[s]?.getD 0) := by rw [List.getElem?_eq_getElem (by rw [rfq_length]; exact hs)]; rfl
   rw [e2,rfq_get _ _ _ hs]
   simp [e]
 ·rw [List.getElem?_eq_none (by rw [rfq_length]; omega),List.getElem?_eq_none (by rw [List.length_set,rfq_length]; omega)]
theorem rfq_le (ls : List Nat) (i s : Nat) : (rfq ls i)[s]?.getD 0 <= (rnL ls).length := by
 by_cases hs : s < 19
 ·rw [rfq_get _ _ _ hs]
  refine Nat.le_trans List.count_le_length ?_
  simp
  exact Nat.min_le_right _ _
 ·rw [List.getElem?_eq_none (by rw [rfq_length]; omega)]; exact Nat.zero_le _
theorem ops_few (ls : List Nat) (h15 : ∀ x ∈ ls,x <= 15) : ∀ (k i : Nat),i <= ls.length -> (Rn.ops ls k i).length + i <= ls.length
 | 0,i,h => by simpa [Rn.ops] using h
 | k + 1,i,h => by
  simp only [Rn.ops]
  by_cases e : ls.length <= i
  ·rw [if_pos e]; simpa using h
  ·rw [if_neg e]
   have hs := Rn.siz_le ls h15 i (by omega)
   have hr := Rn.run_le ls i
   have := ops_few ls h15 k (i + Rn.siz ls i) (by omega)
   simp only [List.length_cons]
   omega
theorem rnL_few (ls : List Nat) (h15 : ∀ x ∈ ls,x <= 15) : (rnL ls).length <= ls.length := by
 have := ops_few ls h15 (ls.length + 1) 0 (Nat.zero_le _)
 unfold rnL
 omega
theorem rnL_lt (ls : List Nat) (h15 : ∀ x ∈ ls,x <= 15) : ∀ o ∈ rnL ls,o.1 < 19 := Rn.ops_lt ls h15 _ _
theorem rnL_fit (ls : List Nat) : ∀ (k i : Nat),∀ o ∈ Rn.ops ls k i,o.2 < 2 ^ Hd.ex o.1
 | 0,_,o,h => nomatch h
 | k + 1,i,o,h => by
  simp only [Rn.ops] at h
  by_cases e : ls.length <= i
  ·rw [if_pos e] at h; exact nomatch h
  ·rw [if_neg e] at h
   rcases List.mem_cons.1 h with rfl | h
   ·exact Rn.num_lt ls i
   ·exact rnL_fit ls k _ o h
theorem head_hv (L D : List Nat) (hL1 : 257 <= L.length) (hL2 : L.length <= 286) (hD1 : 1 <= D.length) (hD2 : D.length <= 30) (h15 : ∀ x ∈ L ++ D,x <= 15) (C : List Nat) (hC : C = code7 (rfq (L ++ D) (rnL (L ++ D)).length))
  (c : Nat) (hc4 : 4 <= c) (hc19 : c <= 19) (hcz : ∀ k,c <= k -> k < 19 -> Hf.ln C (Hd.ord k) = 0) : If.HV L D C c (rnL (L ++ D)) /\ Fit (Hd.zz C) /\ ∀ o ∈ rnL (L ++ D),Hf.ln C o.1 ≠ 0 := by
 have hfl := rfq_length (L ++ D) (rnL (L ++ D)).length
 have hused : ∀ o ∈ rnL (L ++ D),Hf.ln C o.1 ≠ 0 := fun o ho => by
  rw [hC]
  refine (code7_used _ (by rw [hfl]; exact Nat.le_refl _) _).2 ?_
  rw [rfq_get _ _ _ (rnL_lt _ h15 o ho),List.take_length]
  have : 0 < ((rnL (L ++ D)).map Prod.fst).count o.1 := List.count_pos_iff.2 (List.mem_map_of_mem ho)
  omega
 have hne : ∃ o,o ∈ rnL (L ++ D) := by
  have h1 : rnL (L ++ D) = Rn.op (L ++ D) 0 :: Rn.ops (L ++ D) (L ++ D).length (0 + Rn.siz (L ++ D) 0) := by
   unfold rnL
   simp only [Rn.ops]
   rw [if_neg (by rw [List.length_append]; omega)]
  rw [h1]
  exact ⟨_,List.mem_cons_self ..⟩
 obtain ⟨o,ho⟩ := hne
 have hnew : newE (Hd.zz C) = 0 := by
  have h1 := hused o ho
  rw [hC] at h1 ⊢
  exact code7_new _ (by rw [hfl]; exact Nat.le_refl _) o.1 ((code7_used _ (by rw [hfl]; exact Nat.le_refl _) _).1 h1)
 refine ⟨⟨hL1,hL2,hD1,hD2,hc4,hc19,fun i => by rw [hC]; have := code7_7 _ (by rw [hfl]; exact Nat.le_refl _) i; omega,by rw [hC,code7_length,hfl],hcz,hnew,?_,?_⟩,If.fit_of_newE hnew,hused⟩
 ·exact Rn.ops_ov (L ++ D) C h15 _ 0 (Nat.zero_le _) hused
 ·exact Rn.ops_told (L ++ D) h15 _ 0 (by omega) (Nat.zero_le _)
end Dp
end
section
open Go Go.RowKit Go.Shelf
namespace Nr
def NoBoth (Q : Exit -> Act -> World -> Prop) : Exit -> Act -> World -> Prop
 | .panic _,_,_ => False
 | .outgrown,_,_ => False
 | e,a,w => Q e a w
theorem NoBoth.imp {Q : Exit -> Act -> World -> Prop} : ∀ (e : Exit) (a : Act) (w : World),NoBoth Q e a w -> Q e a w := fun e a w h => by
 cases e <;> first | exact h | exact (h : False).elim
theorem NoBoth.normal {Q : Exit -> Act -> World -> Prop} {a : Act} {w : World} (h : Q .normal a w) : NoBoth Q .normal a w := h
end Nr
end
section
open Go.RowKit
theorem Own.alloc' {base : Nat} {w : World} {v : Value} {xs : List Nat} (h : Own base w v xs) (o : Obj) : Own base (w.alloc o) v xs := World.ownsRow.alloc h o
theorem Own.lt' {base : Nat} {w : World} {v : Value} {xs : List Nat} (h : Own base w v xs) (g : Nat) (e : v.ownBlock = some g) : g < w.heap.size := (World.ownsRow.lt h g e).2
structure Tri (w0 w : World) (u v z : Value) (xs ys zs : List Nat) : Prop where
 a : Own w0.heap.size w u xs
 b : Own w0.heap.size w v ys
 c : Own w0.heap.size w z zs
 ab : ∀ g,u.ownBlock = some g -> v.ownBlock ≠ some g
 bc : ∀ g,v.ownBlock = some g -> z.ownBlock ≠ some g
 ca : ∀ g,z.ownBlock = some g -> u.ownBlock ≠ some g
 l : Below w0.heap.size w0 w
theorem Tri.rot {w0 w : World} {u v z : Value} {xs ys zs : List Nat} (h : Tri w0 w u v z xs ys zs) : Tri w0 w v z u ys zs xs := ⟨h.b,h.c,h.a,h.bc,h.ca,h.ab,h.l⟩
theorem Tri.swap {w0 w : World} {u v z : Value} {xs ys zs : List Nat} (h : Tri w0 w u v z xs ys zs) : Tri w0 w v u z ys xs zs := ⟨h.b,h.a,h.c,fun g e1 e2 => h.ab g e2 e1,fun g e1 e2 => h.ca g e2 e1,fun g e1 e2 => h.bc g e2 e1,h.l⟩
theorem Tri.later {w0 w w' : World} {u v z : Value} {xs ys zs : List Nat} (h : Tri w0 w u v z xs ys zs) (hb : Below w.heap.size w w') : Tri w0 w' u v z xs ys zs :=
 ⟨h.a.keep hb,h.b.keep hb,h.c.keep hb,h.ab,h.bc,h.ca,h.l.trans (hb.mono h.l.size)⟩
theorem Tri.start (w : World) : Tri w w (.slice none 0 0) (.slice none 0 0) (.slice none 0 0) [] [] [] :=
 ⟨Own.nil _ _,Own.nil _ _,Own.nil _ _,fun g e => by simp [Value.ownBlock] at e,fun g e => by simp [Value.ownBlock] at e,fun g e => by simp [Value.ownBlock] at e,Below.refl _ _⟩
structure Pd (w : World) (u v z : Value) (g x : Nat) : Prop where
 c : w.cell? ⟨g,0,none⟩ = some (.int .i64 (x : Int))
 lt : g < w.heap.size
 u : u.ownBlock ≠ some g
 v : v.ownBlock ≠ some g
 z : z.ownBlock ≠ some g
theorem Pd.alloc {w : World} {u v z : Value} {g x : Nat} (h : Pd w u v z g x) (o : Obj) : Pd (w.alloc o) u v z g x :=
 ⟨((below1 w o).cell (p := ⟨g,0,none⟩) h.lt).trans h.c,by have := h.lt; simp; omega,h.u,h.v,h.z⟩
theorem Pd.swap {w : World} {u v z : Value} {g x : Nat} (h : Pd w u v z g x) : Pd w v u z g x := ⟨h.c,h.lt,h.v,h.u,h.z⟩
theorem Tri.new {w0 w : World} {u v z : Value} {xs ys zs : List Nat} (h : Tri w0 w u v z xs ys zs) (x : Nat) : Pd (w.alloc (.cells #[.int .i64 (x : Int)] 3)) u v z w.heap.size x :=
 ⟨(Has.new w (.cells #[.int .i64 (x : Int)] 3)).one.1,by simp,fun e => by have := h.a.lt' _ e; omega,fun e => by have := h.b.lt' _ e; omega,fun e => by have := h.c.lt' _ e; omega⟩
theorem Tri.alloc {w0 w : World} {u v z : Value} {xs ys zs : List Nat} (h : Tri w0 w u v z xs ys zs) (o : Obj) : Tri w0 (w.alloc o) u v z xs ys zs := h.later (below1 w o)
theorem Tri.push {w0 w : World} {u v z : Value} {xs ys zs : List Nat} (h : Tri w0 w u v z xs ys zs) {g x : Nat} (hp : Pd w u v z g x) (hx : xs.length <= 99999) (ty : TypeId) :
  ∃ u' w',(Builtin.append_ #[57,57] ty #[u,.slice (some ⟨g,0,none⟩) 1 1]).run Tryz.prog w = .ok u' w' /\ Tri w0 w' u' v z (xs ++ [x]) ys zs /\ ∀ g' x',g' ≠ g -> Pd w u v z g' x' -> Pd w' u' v z g' x' := by
 obtain ⟨i0,hi,hz0,hz1,hz2⟩ := info_parts Tryz.infoInt
 obtain ⟨u',w',h1,h2,h3,_,h5⟩ := run_append_own_at (P := Tryz.prog) (w := w) w0.heap.size 57 ty 3 i0 (.int .i64 0) 1 8 Tryz.underlying57 hi hz0 hz1 hz2 rfl (by decide) u xs.length (vn xs) h.a ⟨g,0,none⟩ 1 1 [.int .i64 (x : Int)] rfl
  (fun j t hj => by
   cases j with
   | zero => simp at hj; subst hj; exact hp.c
   | succ j => simp at hj) (by simp [Value.oneCell']) (by unfold maxLen; omega) (by omega) h.l.size
 have hne : ∀ {q : Value} {qs : List Nat},Own w0.heap.size w q qs -> (∀ k,q.ownBlock = some k -> u.ownBlock ≠ some k) -> Own w0.heap.size w' q qs := fun {q qs} ho hk =>
  World.ownsRow.kept ho h3 (by
   cases e : q.ownBlock with
   | none => exact .inl rfl
   | some k => exact .inr fun e2 => hk k e e2.symm)
 refine ⟨u',w',h1,⟨?_,hne h.b (fun k e1 e2 => h.ab k e2 e1),hne h.c h.ca,fun k e1 e2 => ?_,h.bc,fun k e1 e2 => ?_,h.l.grown h3 h.l.size (fun q e => (World.ownsRow.lt h.a q e).1)⟩,fun g' x' hg' hq => ?_⟩
 ·show w'.ownsRow _ _ _ _ (xs ++ [x]).length (vn (xs ++ [x]))
  rw [vn_append,List.length_append]; exact h2
 ·rcases h5 with h6 | h6
  ·rw [h6] at e1; exact h.ab k e1 e2
  ·rw [h6] at e1
   have := h.b.lt' k e2
   injection e1 with e1
   omega
 ·rcases h5 with h6 | h6
  ·rw [h6] at e2; exact h.ca k e1 e2
  ·rw [h6] at e2
   have := h.c.lt' k e1
   injection e2 with e2
   omega
 ·have hb := h3.block g' hq.lt (fun e => hq.u e.symm)
  refine ⟨(World.cell?_of_block (a := ⟨g',0,none⟩) hb).trans hq.c,Nat.lt_of_lt_of_le hq.lt h3.size,fun e => ?_,hq.v,hq.z⟩
  rcases h5 with h6 | h6
  ·rw [h6] at e; exact hq.u e
  ·rw [h6] at e
   injection e with e
   have := hq.lt
   omega
theorem Tri.one {w0 w : World} {u v z : Value} {xs ys zs : List Nat} (h : Tri w0 w u v z xs ys zs) (x : Nat) (hx : xs.length <= 99999) (ty : TypeId) :
  ∃ u' w',(Builtin.append_ #[57,57] ty #[u,.slice (some ⟨w.heap.size,0,none⟩) 1 1]).run Tryz.prog (w.alloc (.cells #[.int .i64 (x : Int)] 3)) = .ok u' w' /\ Tri w0 w' u' v z (xs ++ [x]) ys zs := by
 obtain ⟨u',w',h1,h2,_⟩ := (h.alloc _).push (h.new x) hx ty
 exact ⟨u',w',h1,h2⟩
abbrev OneN (x : Nat) : Obj := .cells #[.int .i64 (x : Int)] 3
theorem Tri.apbq {w0 w : World} {u v z : Value} {xs ys zs : List Nat} (h : Tri w0 w u v z xs ys zs) (x y : Nat) (hx : xs.length <= 99999) (hy : ys.length <= 99999) (ty : TypeId) :
  ∃ u' v' w1 w2,(Builtin.append_ #[57,57] ty #[u,.slice (some ⟨w.heap.size,0,none⟩) 1 1]).run Tryz.prog (w.alloc (OneN x)) = .ok u' w1 /\
   (Builtin.append_ #[57,57] ty #[v,.slice (some ⟨w1.heap.size,0,none⟩) 1 1]).run Tryz.prog (w1.alloc (OneN y)) = .ok v' w2 /\ Tri w0 w2 u' v' z (xs ++ [x]) (ys ++ [y]) zs := by
 obtain ⟨u',w1,h1,h2⟩ := h.one x hx ty
 obtain ⟨v',w2,h3,h4⟩ := h2.swap.one y hy ty
 exact ⟨u',v',w1,w2,h1,h3,h4.swap⟩
end
section
open Go.RowKit
namespace If
theorem toks_at {ts : List Tk} {i : Nat} {t : Tk} (h : ts[i]? = some t) : (tell (ts.take (i + 1))).length = (tell (ts.take i)).length + sz t := by rw [tell_take_succ h,tell1_length]
theorem tv_from {ts : List Tk} (h : Toks ts) {most : Nat} (hm : (tell ts).length <= most) : ∀ (d i : Nat),i + d = ts.length -> TV most (ts.drop i) (tell (ts.take i)).length
 | 0,i,hi => by rw [List.drop_of_length_le (by omega)]; exact trivial
 | d + 1,i,hi => by
  have hlt : i < ts.length := by omega
  have hg := List.getElem?_eq_getElem hlt
  rw [List.drop_eq_getElem_cons hlt]
  have ih := tv_from h hm d (i + 1) (by omega)
  rw [toks_at hg] at ih
  have hle := tell_take_le ts (ts.length - (i + 1)) (i + 1) (by omega)
  rw [toks_at hg] at hle
  exact ⟨h i _ hg,by omega,ih⟩
theorem tv_of {ts : List Tk} (h : Toks ts) {most : Nat} (hm : (tell ts).length <= most) : TV most ts 0 := by
 have := tv_from h hm ts.length 0 (by omega)
 simpa [tell] using this
theorem toks_vals {ts : List Tk} (h : Toks ts) : ∀ t ∈ ts,Byt t ∨ Cop t := by
 intro t ht
 obtain ⟨i,hi⟩ := List.getElem?_of_mem ht
 exact (h i t hi).1
theorem fix_toks {ts : List Tk} (h : Toks ts) (most : Int) (h1 : ((tell ts).length : Int) <= most) (h2 : most <= 65536) : decode (bb (Bs.pack (fixRow ts))) most = (tell ts,(Bs.pack (fixRow ts)).length,0) :=
 fix_decode most (by omega) h2 (tv_of h (by omega))
end If
theorem fixed_ok (a : Option Addr) (n c : Nat) (ts : List If.Tk) (w : World) (hs : Tks w (.slice a n c) ts) (hn : n = ts.length) (hts : If.Toks ts) (hl : (If.tell ts).length <= 65536) :
  Calls Tryz.prog 15 #[.slice a n c] w (StrPost w (Bs.pack (If.fixRow ts))) := by
 have hb1 := below1 w (.cells #[.slice a n c] 30)
 have hx := Has.new w (.cells #[.slice a n c] 30)
 have hn9 : n <= 65536 := by have := If.toks_length_le ts; omega
 have HE := LH (expand_tks (.slice a n c) ts 65536 (w.alloc (.cells #[.slice a n c] 30)) (hs.later hb1) hts hl (Nat.le_refl _))
 have HST := LH (fun W (hb : Below (w.alloc (.cells #[.slice a n c] 30)).heap.size (w.alloc (.cells #[.slice a n c] 30)) W) => stream_ok 28 #[.pointer (some ⟨w.heap.size,0,none⟩)] Tryz.call28 W _ (fixed1_lay W w.heap.size a n c ts (hx.later hb) ((hs.later hb1).later hb) hn hn9 (If.toks_vals hts)))
 have HB := LH hb1
 have HX := LH hx
 clear hs hn hts hl hb1 hx hn9
 go_enter Tryz.func15,Tryz.ntmps15
 go_wp2_with fail
 refine (show Calls Tryz.prog 24 #[_,.int .i64 65536] _ _ from HE.out).mono ?_
 clear HE
 rintro e w1 ⟨v,rfl,_,hb⟩
 have HS1 := LH (HST.out w1 hb)
 have HB1 := LH (HB.out.trans (hb.mono HB.out.size))
 have hx1 := HX.out.later hb
 obtain ⟨c0,_⟩ := hx1.one
 clear HST HX hx1 hb
 go_wp2_with fail
 refine HS1.out.mono ?_
 clear HS1
 rintro e w2 ⟨v2,rfl,ho,hb2⟩
 have HO := LH (own_weaken ho HB1.out.size)
 have HBB := LH (HB1.out.trans (hb2.mono HB1.out.size))
 clear ho hb2
 go_wp2
 refine bodyPost_ret (v := .tuple #[v2,.int .i64 0]) (by simp [results,Tryz.results15,go_sem]) rfl ⟨_,rfl,HO.out,HBB.out⟩
end
section
open Go.RowKit
theorem rhread_any (s : Value) (l : List Bool) (N p : Nat) (w : World) (hs : Sl w s (Bs.pack l)) (hl : Hid (N = l.length)) (hN : N <= 2251799813685248) (hp : p <= N) :
  Calls Tryz.prog 125 #[.agg #[s,.int .i64 (N : Int)],.int .i64 (p : Int)] w (RReadPost w (Hd.head l p)) := by
 have hl' : N = l.length := hl.out
 by_cases h0 : N < p + 5
 ·rw [Hd.head_e1 (by omega)]; exact rhead_e1 s l N p w hs hl hN hp h0
 ·by_cases h1 : N < p + 10
  ·rw [Hd.head_e1 (by omega)]; exact rhead_e2 s l N p w hs hl hN (by omega) h1
  ·by_cases h3 : 286 < Hd.num l p 5 + 257 ∨ 30 < Hd.num l (p + 5) 5 + 1
   ·rw [Hd.head_e3 (by omega) rfl rfl h3]
    by_cases h2 : 286 < Hd.num l p 5 + 257
    ·exact rhead_e3a s l N p w hs hl hN (by omega) h2
    ·exact rhead_e3b s l N p w hs hl hN (by omega) ⟨h2,h3.resolve_left h2⟩
   ·by_cases h4 : N < p + 14
    ·rw [Hd.head_e4 (by omega) rfl rfl h3 (by omega)]; exact rhead_e4 s l N p w hs hl hN (by omega) h3 h4
    ·by_cases h5 : N < p + 14 + 3 * (Hd.num l (p + 10) 4 + 4)
     ·rw [Hd.head_e5 (by omega) rfl rfl rfl h3 (by omega)]; exact rhead_e5 s l N p w hs hl hN (by omega) h3 h5
     ·by_cases h6 : newE (Hd.zz (Hd.cl l (p + 14) (Hd.num l (p + 10) 4 + 4))) = 0
      ·rw [Hd.head_run (by omega) rfl rfl rfl rfl h3 (by omega) h6]; exact rhead_run s l N p w hs hl hN (by omega) h3 (by omega) h6
      ·rw [Hd.head_e6 (by omega) rfl rfl rfl rfl h3 (by omega) h6]; exact rhead_e6 s l N p w hs hl hN (by omega) h3 (by omega) h6
end
section
open Go.ChangeShapes Go.WideShapes Go.ChangeAt Go.RowKit
theorem Tryz.cellsInt9 : Tryz.prog.cellsOf 3 = 1 := by kernel_rfl
theorem Tryz.cellsU89 : Tryz.prog.cellsOf 5 = 1 := by kernel_rfl
theorem Tryz.cellsTok9 : Tryz.prog.cellsOf 48 = 3 := by kernel_rfl
theorem wf_u89 {n : Int} (h : (Lit.int .u8 n).wf = true) : 0 <= n /\ n < 256 := by
 simp [Lit.wf,IntKind.min,IntKind.max,IntKind.signed,IntKind.bits] at h
 omega
theorem ti_cells {H : Type} {enc : TypeId × Value -> H} {W : World} {n : Nat} {cs : List Value} {x : DataW H × List MemPlace} (h : DataW.trod enc Tryz.prog W 0 (fun _ => true) true n 48 cs = some x) (hl : cs.length = 3) :
  ∃ t : Ti,cs = [.int .i64 t.len,.int .i64 t.far,.int .u8 (t.lit : Int)] /\ t.lit < 256 := by
 obtain ⟨xs,n',_,_,_,hxl,hf⟩ := DataW.trod_struct Tryz.underlying48 h
 match cs,hl with
 | [c0,c1,c2],_ =>
  have hx3 : xs.length = 3 := by simpa using hxl
  have g : ∀ i,i < 3 -> xs[i]? = some (xs[i]?.getD x) := fun i hi => by rw [List.getElem?_eq_getElem (by omega)]; rfl
  have f0 : DataW.trod enc Tryz.prog W 0 (fun _ => true) true n' 3 (List.take (Tryz.prog.cellsOf 3) (List.drop 0 [c0,c1,c2])) = some _ := (hf 0 _ rfl).trans (g 0 (by decide))
  have f1 : DataW.trod enc Tryz.prog W 0 (fun _ => true) true n' 3 (List.take (Tryz.prog.cellsOf 3) (List.drop 1 [c0,c1,c2])) = some _ := (hf 1 _ rfl).trans (g 1 (by decide))
  have f2 : DataW.trod enc Tryz.prog W 0 (fun _ => true) true n' 5 (List.take (Tryz.prog.cellsOf 5) (List.drop 2 [c0,c1,c2])) = some _ := (hf 2 _ rfl).trans (g 2 (by decide))
  simp only [Tryz.cellsInt9,Tryz.cellsU89,List.drop_zero,List.drop_succ_cons,List.take_succ_cons,List.take_zero] at f0 f1 f2
  obtain ⟨n0,e0,_,w0⟩ := DataW.trod_int Tryz.underlying3 f0
  obtain ⟨n1,e1,_,w1⟩ := DataW.trod_int Tryz.underlying3 f1
  obtain ⟨n2,e2,_,w2⟩ := DataW.trod_int Tryz.underlying5 f2
  simp only [List.cons.injEq,and_true] at e0 e1 e2
  have b2 := wf_u89 w2
  exact ⟨⟨n0,n1,n2.toNat⟩,by rw [e0,e1,e2,show ((n2.toNat : Nat) : Int) = n2 by omega],by show n2.toNat < 256; omega⟩
theorem tis_open {H : Type} {enc : TypeId × Value -> H} {W : World} {base : Nat} {v : Value} {d : DataW H} {p : List MemPlace} (hv : Value.okWide Tryz.prog W .any base 30 v)
  (h : DataW.Trod enc Tryz.prog W 0 (fun _ => true) true 30 v d p) : ∃ l,Tis W v l /\ (∀ t ∈ l,t.lit < 256) /\ l.length <= 9223372036854775807 /\ (∀ n c,v = .slice none n c -> c = 0) := by
 obtain ⟨a1,len,cap,rfl⟩ := okWide_slice Tryz.underlying30 hv
 obtain ⟨fuel,hf⟩ := h
 rcases DataW.trod_slice Tryz.underlying30 hf with ⟨hcs,_⟩ | ⟨a,len',cap',elems,rest,n,_,hcs,_,_,hl,hm,hlen,hel,_⟩
 ·simp [Value.cells] at hcs
  obtain ⟨rfl,rfl,rfl⟩ := hcs
  exact ⟨[],⟨none,0,rfl,fun h => absurd h (by simp)⟩,by simp,by simp,fun n c e => by cases e; rfl⟩
 ·simp [Value.cells] at hcs
  obtain ⟨rfl,rfl,rfl⟩ := hcs
  have hm' : cap <= 9223372036854775807 := by unfold maxLen at hm; omega
  obtain ⟨b,off,spot⟩ := a
  have els : ∀ j,j < len -> ∃ cs x,W.cells? 0 ((⟨b,off,spot⟩ : Addr).add (j * 3)) 3 = some cs /\ DataW.trod enc Tryz.prog W 0 (fun _ => true) true n 48 cs = some x := fun j hj => by
   have hE := hel j hj
   rw [Tryz.cellsTok9,List.getElem?_eq_getElem (by omega)] at hE
   simp only [Option.bind_eq_some_iff] at hE
   obtain ⟨cs,hcs,ht⟩ := hE
   exact ⟨cs,_,hcs,ht⟩
  rcases Nat.eq_zero_or_pos len with rfl | hpos
  ·exact ⟨[],⟨some ⟨b,off,spot⟩,cap,rfl,fun h => absurd h (by simp)⟩,by simp,by simp,fun n c e => by cases e⟩
  have hs : spot = none := by
   obtain ⟨cs,x,hcs,ht⟩ := els 0 hpos
   obtain ⟨_,hcl,hat⟩ := World.cells?_some hcs
   obtain ⟨t,rfl,_⟩ := ti_cells ht hcl
   have at0 := hat 0 (by decide)
   simpa [Addr.add] using World.cell?_spot at0
  subst hs
  have one : ∀ j,j < len -> ∃ t : Ti,(W.cell? ⟨b,off + j * 3,none⟩ = some (.int .i64 t.len) /\ W.cell? ⟨b,off + j * 3 + 1,none⟩ = some (.int .i64 t.far) /\ W.cell? ⟨b,off + j * 3 + 2,none⟩ = some (.int .u8 (t.lit : Int))) /\ t.lit < 256 := fun j hj => by
   obtain ⟨cs,x,hcs,ht⟩ := els j hj
   obtain ⟨_,hcl,hat⟩ := World.cells?_some hcs
   obtain ⟨t,rfl,h8⟩ := ti_cells ht hcl
   have cell : ∀ k,k < 3 -> W.cell? ⟨b,off + j * 3 + k,none⟩ = [Value.int .i64 t.len,.int .i64 t.far,.int .u8 (t.lit : Int)][k]? := fun k hk => by
    have := hat k hk
    rw [Addr.add_mid,Addr.add_mid] at this
    exact this
   exact ⟨t,⟨cell 0 (by decide),cell 1 (by decide),cell 2 (by decide)⟩,h8⟩
  have hb : b < W.heap.size := by
   obtain ⟨t,⟨c0,_⟩,_⟩ := one 0 hpos
   exact World.block_lt_of_cell? _ _ c0
  have dflt : Ti := ⟨0,0,0⟩
  have hat : ∀ j t,((List.range len).map fun j => if h : j < len then Classical.choose (one j h) else dflt)[j]? = some t -> (W.cell? ⟨b,off + j * 3,none⟩ = some (.int .i64 t.len) /\ W.cell? ⟨b,off + j * 3 + 1,none⟩ = some (.int .i64 t.far) /\ W.cell? ⟨b,off + j * 3 + 2,none⟩ = some (.int .u8 (t.lit : Int))) /\ t.lit < 256 := fun j t hj => by
   have hjl : j < len := by
    have := (List.getElem?_eq_some_iff.1 hj).1
    simpa using this
   rw [List.getElem?_map,List.getElem?_range hjl] at hj
   simp only [Option.map_some,Option.some.injEq,dif_pos hjl] at hj
   rw [<- hj]
   exact Classical.choose_spec (one j hjl)
  refine ⟨(List.range len).map fun j => if h : j < len then Classical.choose (one j h) else dflt,⟨some ⟨b,off,none⟩,cap,by simp,fun _ => ⟨b,off,rfl,hb,fun j t hj => (hat j t hj).1⟩⟩,fun t ht => ?_,by simp; omega,fun n c e => by cases e⟩
  obtain ⟨j,hj⟩ := List.getElem?_of_mem ht
  exact (hat j t hj).2
end
end Go.Proofs.YtmgpcbjciioiaaaGreatDoor
