import Derived.Test.YtmgpcbjciioiaaaGreatDoorDcod
import Derived.Test.YtmgpcbjciioiaaaGreatDoorLplain
import Derived.Test.YtmgpcbjciioiaaaGreatDoorWruns
import Derived.Test.YtmgpcbjciioiaaaGreatDoorLsing
import Derived.Test.YtmgpcbjciioiaaaGreatDoorKneed
import Derived.Test.YtmgpcbjciioiaaaGreatDoorImost
import Derived.Test.YtmgpcbjciioiaaaGreatDoorHrnew
import Derived.Test.YtmgpcbjciioiaaaGreatDoorKlen
import Derived.Test.YtmgpcbjciioiaaaGreatDoorHsort
import Derived.Deep.RegionLawGrows
namespace Go.Proofs.YtmgpcbjciioiaaaGreatDoor
set_option maxRecDepth 100000
set_option maxHeartbeats 8000000
section
open Go.RowKit
theorem Lx.code {w0 w wi : World} {T : Nat} {tv : Value} {l : List Bool} {c : Value} {ls : List Nat} (h : Lx w0 w tv wi T l) (hc : Cdr T tv w c ls) : ∃ E A B gA gB cA cB,c = CF E A B /\ Cd wi E A B gA gB cA cB ls := by
 obtain ⟨tvi,h1,h2⟩ := h
 obtain ⟨E,A,B,gA,gB,cA,cB,rfl,h3,_⟩ := hc.step h2
 exact ⟨E,A,B,gA,gB,cA,cB,rfl,h3⟩
theorem Lx.cd {w0 w wi : World} {T : Nat} {tv : Value} {l : List Bool} {E A B gA gB cA cB : Nat} {ls : List Nat} (h : Lx w0 w tv wi T l) (hc : Cd w E A B gA gB cA cB ls) (hf : ∀ k,k = E ∨ k = A ∨ k = B ∨ k = gA ∨ k = gB -> Fb T tv w k) : Cd wi E A B gA gB cA cB ls := by
 obtain ⟨tvi,h1,h2⟩ := h
 exact hc.same fun k hk => ((hf k hk).step h2).2
def scaBits (ls : List Nat) (sym v n : Nat) : List Bool := cw ls sym ++ Bs.bitsOf v n
theorem scaled_lay {w0 w : World} {T : Nat} {tv : Value} {l : List Bool} (h : Ly w0 w T tv l) (E A B gA gB cA cB : Nat) (ls : List Nat) (hc : Cd w E A B gA gB cA cB ls) (hk : ∀ k,k = E ∨ k = A ∨ k = B ∨ k = gA ∨ k = gB -> Fb T tv w k) (hf : Fit (Hd.zz ls)) (q sym v n : Nat) (h0 : Hf.ln ls sym ≠ 0) (hn : n <= 15) (hv : v < 2 ^ n)
  (O G : FuncId) (hO : ∀ (args : Array Value) (wx : World),(callFunc O args).run Tryz.prog wx = .ok (.enter O args) wx) (hG : ∀ (args : Array Value) (wx : World),(callFunc G args).run Tryz.prog wx = .ok (.enter G args) wx)
  (ho : ∀ W,Calls Tryz.prog O #[.int .i64 (q : Int)] W fun e w' => e = .returned (.tuple #[.int .i64 (sym : Int),.int .i64 (v : Int),.int .i64 0]) /\ Below W.heap.size W w')
  (hg : ∀ W,Calls Tryz.prog G #[.int .i64 (sym : Int)] W fun e w' => e = .returned (.tuple #[.int .i64 (n : Int),.int .i64 0]) /\ Below W.heap.size W w') (h9 : l.length <= 10000000) :
  Calls Tryz.prog 61 #[LF T,CF E A B,.int .i64 (q : Int),.func (.func O) #[] #[],.func (.func G) #[] #[]] w (LayPost w0 w T tv (l ++ scaBits ls sym v n)) := by
 have hln := (fit_code hf h0).2.2
 have H0 := LH (Lx.start h)
 have HC := LH (fun (wi : World) (li : List Bool) (hx : Lx w0 w tv wi T li) => code_lay (hx.cd hc hk) hf sym h0)
 have HO := LH ho
 have HG := LH hg
 obtain ⟨L,hL⟩ : ∃ L,L = Hf.ln ls sym := ⟨_,rfl⟩
 have HL := LH hL
 rw [<- hL] at HC hln
 clear h hc hk hf h0 ho hg hL
 go_enter Tryz.func61,Tryz.ntmps61
 go_wp2_with fail
 refine (HO.out _).mono ?_
 rintro e w1 ⟨rfl,hb1⟩
 have H1 := LH (H0.out.later hb1)
 clear hb1 H0 HO
 go_wp2_with fail
 refine (HC.out _ _ H1.out).mono ?_
 rintro e w2 ⟨a2,m2,c2,rfl,hs2,hb2⟩
 have HY := LH ((H1.out.later hb2).lay _ _ L hs2 (by show L = _; rw [Bs.bitsOf_length]) (by omega))
 clear HC hs2 hb2 H1
 go_wp2_with fail
 refine HY.out.mono ?_
 rintro e w3 ⟨rfl,h3⟩
 have H3 := LH h3
 clear HY h3
 go_wp2_with fail
 refine (HG.out _).mono ?_
 rintro e w4 ⟨rfl,hb4⟩
 have H4 := LH (H3.out.later hb4)
 have HN := LH (number_lay v n w4 (by omega) hv)
 clear hb4 H3 HG
 go_wp2_with fail
 refine HN.out.mono ?_
 rintro e w5 ⟨a5,m5,c5,rfl,hs5,hb5⟩
 have HY := LH ((H4.out.later hb5).lay _ _ n hs5 (by show n = _; rw [Bs.bitsOf_length]) (by rw [List.length_append,Bs.bitsOf_length]; omega))
 clear HN hs5 hb5 H4
 go_wp2_with fail
 refine HY.out.mono ?_
 rintro e w6 ⟨rfl,h6⟩
 rw [List.append_assoc,HL.out] at h6
 have H6 := LH h6
 clear HY h6
 go_wp2
 exact ⟨rfl,.tuple #[],by simp [results,Tryz.results61,go_sem],H6.out.post⟩
end
section
open Go.RowKit
def Tks (w : World) (s : Value) (ts : List If.Tk) : Prop := ∃ a cap,s = .slice a ts.length cap /\ (0 < ts.length -> ∃ b off,a = some ⟨b,off,none⟩ /\ b < w.heap.size /\ ∀ i t,ts[i]? = some t ->
 w.cell? ⟨b,off + i * 3,none⟩ = some (.int .i64 (t.len : Int)) /\ w.cell? ⟨b,off + i * 3 + 1,none⟩ = some (.int .i64 (t.far : Int)) /\ w.cell? ⟨b,off + i * 3 + 2,none⟩ = some (.int .u8 (t.lit : Int)))
theorem Tks.later {w w' : World} {s : Value} {ts : List If.Tk} (h : Tks w s ts) (hb : Below w.heap.size w w') : Tks w' s ts := by
 obtain ⟨a,cap,rfl,h⟩ := h
 refine ⟨a,cap,rfl,fun h0 => ?_⟩
 obtain ⟨b,off,rfl,hlt,hc⟩ := h h0
 refine ⟨b,off,rfl,Nat.lt_of_lt_of_le hlt hb.size,fun i t ht => ?_⟩
 obtain ⟨h1,h2,h3⟩ := hc i t ht
 exact ⟨(hb.cell (p := ⟨b,off + i * 3,none⟩) hlt).trans h1,(hb.cell (p := ⟨b,off + i * 3 + 1,none⟩) hlt).trans h2,(hb.cell (p := ⟨b,off + i * 3 + 2,none⟩) hlt).trans h3⟩
theorem Tks.at' {w : World} {a : Option Addr} {n cap : Nat} {ts : List If.Tk} (h : Tks w (.slice a n cap) ts) (i : Nat) (t : If.Tk) (ht : ts[i]? = some t) : n = ts.length /\ ∃ b off,a = some ⟨b,off,none⟩ /\ b < w.heap.size /\
  w.cell? ⟨b,off + i * 3,none⟩ = some (.int .i64 (t.len : Int)) /\ w.cell? ⟨b,off + i * 3 + 1,none⟩ = some (.int .i64 (t.far : Int)) /\ w.cell? ⟨b,off + i * 3 + 2,none⟩ = some (.int .u8 (t.lit : Int)) := by
 obtain ⟨a',cap',e,h⟩ := h
 injection e with e1 e2 e3
 subst e1 e2
 have hi := (List.getElem?_eq_some_iff.1 ht).1
 obtain ⟨b,off,rfl,hlt,hc⟩ := h (by omega)
 exact ⟨rfl,b,off,rfl,hlt,hc i t ht⟩
theorem cw_le {ls : List Nat} (hf : Fit (Hd.zz ls)) (x : Nat) : (cw ls x).length <= 15 := by
 rw [cw_len]
 by_cases h : Hf.ln ls x = 0
 ·omega
 ·exact (fit_code hf h).2.2
theorem tokRow_le {lit dist : List Nat} (h1 : Fit (Hd.zz lit)) (h2 : Fit (Hd.zz dist)) {t : If.Tk} (ht : If.Byt t ∨ If.Cop t) : (If.tokRow lit dist t).length <= 48 := by
 have a1 := cw_le h1
 have a2 := cw_le h2
 unfold If.tokRow
 split
 ·have := a1 t.lit; omega
 ·rename_i h0
  rcases ht with hb | ⟨_,c1,c2,c3,c4⟩
  ·exact absurd hb.1 h0
  ·have g1 := Sy.lb_le (Sy.lk t.len) (by have := (Sy.lk_has t.len c1).1; omega)
   have g2 := Sy.db_le (Sy.dk t.far) (by have := (Sy.dk_has t.far c3).1; omega)
   have b1 := a1 (257 + Sy.lk t.len)
   have b2 := a2 (Sy.dk t.far)
   simp only [List.length_append,Bs.bitsOf_length]
   omega
theorem toksRow_le {lit dist : List Nat} (h1 : Fit (Hd.zz lit)) (h2 : Fit (Hd.zz dist)) : ∀ (ts : List If.Tk),(∀ t ∈ ts,If.Byt t ∨ If.Cop t) -> (If.toksRow lit dist ts).length <= 48 * ts.length
 | [],_ => by simp [If.toksRow]
 | t :: ts,h => by
  have ih := toksRow_le h1 h2 ts fun x hx => h x (List.mem_cons_of_mem _ hx)
  have := tokRow_le h1 h2 (h t (List.mem_cons_self ..))
  rw [If.toksRow_cons,List.length_append,List.length_cons]
  omega
theorem len_go (n : Nat) (h1 : 3 <= n) (h2 : n <= 258) (W : World) : Calls Tryz.prog 62 #[.int .i64 (n : Int)] W fun e w' => e = .returned (.tuple #[.int .i64 ((257 + Sy.lk n : Nat) : Int),.int .i64 ((n - Sy.at' Sy.lf (Sy.lk n) : Nat) : Int),.int .i64 0]) /\ Below W.heap.size W w' := by
 have h := lsym_go (n : Int) W (by omega)
 have e : Sy.lsymA (n : Int) = (257 + Sy.lk n,n - Sy.at' Sy.lf (Sy.lk n),0) := by unfold Sy.lsymA; rw [if_pos (by omega),Int.toNat_natCast]
 rw [e] at h
 exact h
theorem lenbits_go (k : Nat) (hk : k <= 28) (W : World) : Calls Tryz.prog 63 #[.int .i64 ((257 + k : Nat) : Int)] W fun e w' => e = .returned (.tuple #[.int .i64 ((Sy.at' Sy.lb k : Nat) : Int),.int .i64 0]) /\ Below W.heap.size W w' := by
 have h := lbit_go ((257 + k : Nat) : Int) W
 have e : Sy.lbitA ((257 + k : Nat) : Int) = (Sy.at' Sy.lb k,0) := by unfold Sy.lbitA; rw [if_pos (by omega),show (((257 + k : Nat) : Int) - 257).toNat = k by omega]
 rw [e] at h
 exact h
theorem dist_go (n : Nat) (h1 : 1 <= n) (h2 : n <= 32768) (W : World) : Calls Tryz.prog 64 #[.int .i64 (n : Int)] W fun e w' => e = .returned (.tuple #[.int .i64 ((Sy.dk n : Nat) : Int),.int .i64 ((n - Sy.at' Sy.df (Sy.dk n) : Nat) : Int),.int .i64 0]) /\ Below W.heap.size W w' := by
 have h := dsym_go (n : Int) W (by omega)
 have e : Sy.dsymA (n : Int) = (Sy.dk n,n - Sy.at' Sy.df (Sy.dk n),0) := by unfold Sy.dsymA; rw [if_pos (by omega),Int.toNat_natCast]
 rw [e] at h
 exact h
theorem distbits_go (k : Nat) (hk : k <= 29) (W : World) : Calls Tryz.prog 65 #[.int .i64 (k : Int)] W fun e w' => e = .returned (.tuple #[.int .i64 ((Sy.at' Sy.db k : Nat) : Int),.int .i64 0]) /\ Below W.heap.size W w' := by
 have h := dbit_go (k : Int) W
 have e : Sy.dbitA (k : Int) = (Sy.at' Sy.db k,0) := by unfold Sy.dbitA; rw [if_pos (by omega),Int.toNat_natCast]
 rw [e] at h
 exact h
theorem symbols_lay {w0 w : World} {T : Nat} {tv : Value} {l : List Bool} (h : Ly w0 w T tv l) (a : Option Addr) (n c : Nat) (ts : List If.Tk) (htk : ∀ W,Below T w0 W -> Tks W (.slice a n c) ts) (hn : n = ts.length)
  (lit dist : List Nat) (gL cL gD cD : Nat) (hL : ∀ i,i < lit.length -> w.cell? ⟨gL,i,none⟩ = some (.int .i64 ((Hf.ln lit i : Nat) : Int))) (hD : ∀ i,i < dist.length -> w.cell? ⟨gD,i,none⟩ = some (.int .i64 ((Hf.ln dist i : Nat) : Int)))
  (fL : Fb T tv w gL) (fD : Fb T tv w gD) (tL : Fit (Hd.zz lit)) (tD : Fit (Hd.zz dist)) (l1 : 0 < lit.length) (l2 : lit.length <= 288) (d1 : 0 < dist.length) (d2 : dist.length <= 288)
  (hv : ∀ t ∈ ts,If.Byt t ∨ If.Cop t) (hh : ∀ t ∈ ts,If.Has1 lit dist t) (he : Hf.ln lit 256 ≠ 0) (h9 : l.length + 48 * n <= 9000000) :
  Calls Tryz.prog 30 #[LF T,.slice a n c,.slice (some ⟨gL,0,none⟩) lit.length cL,.slice (some ⟨gD,0,none⟩) dist.length cD] w (LayPost w0 w T tv (l ++ (If.toksRow lit dist ts ++ cw lit 256))) := by
 have H := LH h
 have HC1 := LH (codes_lay lit gL cL w tL l2 l1 hL)
 have HC2 := LH (fun W (hb : Below w.heap.size w W) => codes_lay dist gD cD W tD d2 d1 (fun i hi => (hb.cell (p := ⟨gD,i,none⟩) fD.1).trans (hD i hi)))
 have HFL := LH fL
 have HFD := LH fD
 have HTL := LH tL
 have HTD := LH tD
 have HTK := LH htk
 have HV := LH hv
 have HH := LH hh
 have HE := LH he
 have HN := LH hn
 have hTlt : T + 2 < w.heap.size := h.f.lt
 have htvl : ∀ q,tv.ownBlock = some q -> q < w.heap.size := fun q hq => (World.ownsRow.lt h.t.2 q hq).2
 have HTV := LH htvl
 have hle := toksRow_le tL tD ts hv
 have HLE := LH hle
 clear hL hD fL fD tL tD htk hv hh he hn h htvl hle
 generalize hll : lit.length = nl at *
 generalize hdd : dist.length = nd at *
 go_enter Tryz.func30,Tryz.ntmps30
 go_wp2_with fail
 refine HC1.out.mono ?_
 clear HC1
 rintro e w1 ⟨E1,A1,B1,gA1,cA1,rfl,hc1,hk1,hb1⟩
 have HD1 := LH hc1
 have HK1 := LH hk1
 have HB1 := LH hb1
 clear hc1 hk1 hb1
 go_wp2_with fail
 refine (HC2.out _ HB1.out).mono ?_
 clear HC2
 rintro e w2 ⟨E2,A2,B2,gA2,cA2,rfl,hc2,hk2,hb2⟩
 have hb02 : Below w.heap.size w w2 := HB1.out.trans (hb2.mono HB1.out.size)
 have hly2 : Ly w0 w2 T tv l := H.out.later hb02
 have hs1 := HB1.out.size
 have hs2 := hb2.size
 have hnew : ∀ k,w.heap.size <= k -> k < w2.heap.size -> Fb T tv w2 k := fun k h1 h2 => ⟨h2,by omega,by omega,by omega,fun e => by have := HTV.out k e; omega⟩
 have fz : Fz T tv w tv w2 := Fz.of_below hb02
 have hK1 : ∀ k,k = E1 ∨ k = A1 ∨ k = B1 ∨ k = gA1 ∨ k = gL -> Fb T tv w2 k := fun k hk => by
  by_cases e : k = gL
  ·subst e; exact (HFL.out.step fz).1
  ·have := HK1.out k (by rcases hk with h | h | h | h | h <;> simp_all)
   exact hnew k this.1 (by omega)
 have hK2 : ∀ k,k = E2 ∨ k = A2 ∨ k = B2 ∨ k = gA2 ∨ k = gD -> Fb T tv w2 k := fun k hk => by
  by_cases e : k = gD
  ·subst e; exact (HFD.out.step fz).1
  ·have := hk2 k (by rcases hk with h | h | h | h | h <;> simp_all)
   exact hnew k (by omega) this.2
 have hcd1 : Cd w2 E1 A1 B1 gA1 gL cA1 cL lit := HD1.out.same fun k hk => hb2.block k (by
  rcases hk with h | h | h | h | h
  ·exact (HK1.out k (by simp [h])).2
  ·exact (HK1.out k (by simp [h])).2
  ·exact (HK1.out k (by simp [h])).2
  ·exact (HK1.out k (by simp [h])).2
  ·subst h; exact Nat.lt_of_lt_of_le HFL.out.1 hs1)
 have X0 := LH (Lx.start hly2)
 have FZ := LH fz
 have HK1' := LH hK1
 have HK2' := LH hK2
 have HCD1 := LH hcd1
 have HCD2 := LH hc2
 have CODE1 := LH (fun (wi : World) (li : List Bool) (hx : Lx w0 w2 tv wi T li) (x : Nat) (h0 : Hf.ln lit x ≠ 0) => code_lay (hx.cd HCD1.out HK1'.out) HTL.out x h0)
 clear hb02 hly2 hs1 hs2 hnew fz hK1 hK2 hcd1 hc2 hk2 hb2 HD1 HK1 HB1 HFL HFD H HTV
 clear hll hdd
 go_wp2_with fail
 go_loopw [18] (fun s18 wr => ∃ i : Nat,i <= n /\ s18 = .int .i64 (i : Int) /\ Hid (Lx w0 w2 tv wr T (l ++ If.toksRow lit dist (ts.take i)))) (fun s _ => n - (intOf s).toNat)
 case atStart => exact ⟨0,Nat.zero_le _,rfl,by show Lx _ _ _ _ _ _; rw [show l ++ If.toksRow lit dist (ts.take 0) = l by simp [If.toksRow]]; exact X0.out⟩
 case round =>
  obtain ⟨i,hi,rfl,KX⟩ := hrel
  by_cases hlt : i < n
  ·have hit : i < ts.length := by rw [<- HN.out]; exact hlt
   obtain ⟨t,ht⟩ : ∃ t,ts[i]? = some t := ⟨ts[i],List.getElem?_eq_getElem hit⟩
   obtain ⟨hnn,b,off,rfl,hbl,k0,k1,k2⟩ := (HTK.out wr KX.out.b).at' i t ht
   clear hnn
   have htm := List.mem_of_getElem? ht
   have hval := HV.out t htm
   have hhas := HH.out t htm
   have HSN : Hid (l ++ If.toksRow lit dist (ts.take (i + 1)) = l ++ If.toksRow lit dist (ts.take i) ++ If.tokRow lit dist t) := by
    show _ = _
    rw [List.take_add_one,ht,Option.toList,If.toksRow_snoc,List.append_assoc]
   have HLL : Hid ((l ++ If.toksRow lit dist (ts.take i)).length <= 9000000) := by
    have h1 := toksRow_le HTL.out HTD.out (ts.take i) (fun x hx => HV.out x (List.mem_of_mem_take hx))
    have h2 : (ts.take i).length <= n := by rw [List.length_take]; omega
    show _ <= _
    rw [List.length_append]
    have h3 : 48 * (ts.take i).length <= 48 * n := Nat.mul_le_mul_left _ h2
    omega
   have hba := below1 wr (.cells #[.int .i64 (t.len : Int),.int .i64 (t.far : Int),.int .u8 (t.lit : Int)] 48)
   have KX1 := LH (KX.out.later hba)
   have HBX := LH (Has.new wr (.cells #[.int .i64 (t.len : Int),.int .i64 (t.far : Int),.int .u8 (t.lit : Int)] 48))
   have HBA := LH hba
   clear htm hba hit ht hbl
   by_cases h0 : t.len = 0
   ·obtain ⟨len,far,x⟩ := t
    simp only at h0
    subst h0
    unfold If.Has1 at hhas
    rw [if_pos rfl] at hhas
    simp only at hhas
    have HTR : Hid (If.tokRow lit dist ⟨0,far,x⟩ = cw lit x) := rfl
    clear KX HBA
    have hx8 : x < 256 := by
     rcases hval with hb | hc
     ·exact hb.2.2
     ·have := hc.2.1; simp at this
    have HCC := LH (CODE1.out _ _ KX1.out x hhas)
    have hln : Hf.ln lit x <= 15 := (fit_code HTL.out hhas).2.2
    obtain ⟨L,hL⟩ : ∃ L,L = Hf.ln lit x := ⟨_,rfl⟩
    rw [<- hL] at HCC hln
    have HLX := LH hL
    clear hhas hval hL
    go_wp2_with fail
    refine HCC.out.mono ?_
    rintro e w4 ⟨a4,m4,c4,rfl,hs4,hb4⟩
    have HY := LH ((KX1.out.later hb4).lay _ _ L hs4 (by show L = _; rw [Bs.bitsOf_length]) (by have := HLL.out; omega))
    clear HCC hs4 hb4 KX1
    go_wp2_with fail
    refine HY.out.mono ?_
    rintro e w5 ⟨rfl,h5⟩
    rw [HLX.out] at h5
    have H5 : Hid (Lx w0 w2 tv w5 T (l ++ If.toksRow lit dist (ts.take (i + 1)))) := by
     show Lx _ _ _ _ _ _
     rw [HSN.out,HTR.out]
     exact h5
    clear HY h5
    go_wp2_with fail
    go_roundw
    case rel => first | exact ⟨i + 1,by omega,by go_num,H5⟩ | ((repeat apply Exists.intro); exact ⟨⟨i + 1,by omega,by go_num,H5⟩,rfl⟩)
    case measure => simp [intOf]; omega
   ·have hcop : If.Cop t := by
     rcases hval with hb | hc
     ·exact absurd hb.1 h0
     ·exact hc
    obtain ⟨tvi,hly0,hfz0⟩ := KX.out
    have hT3 : T + 2 < wr.heap.size := hly0.f.lt
    have hown : ∀ q,tvi.ownBlock = some q -> q < wr.heap.size := fun q hq => (World.ownsRow.lt hly0.t.2 q hq).2
    have hly := hly0.later HBA.out
    have hfz := hfz0.trans (Fz.of_below HBA.out)
    clear hly0 hfz0 KX HBA
    unfold If.Has1 at hhas
    rw [if_neg h0] at hhas
    have HTR : Hid (If.tokRow lit dist t = scaBits lit (257 + Sy.lk t.len) (t.len - Sy.at' Sy.lf (Sy.lk t.len)) (Sy.at' Sy.lb (Sy.lk t.len)) ++ scaBits dist (Sy.dk t.far) (t.far - Sy.at' Sy.df (Sy.dk t.far)) (Sy.at' Sy.db (Sy.dk t.far))) := by
     show _ = _
     unfold If.tokRow scaBits
     rw [if_neg h0]
    obtain ⟨len,far,x⟩ := t
    obtain ⟨hx0,q1,q2,q3,q4⟩ := hcop
    clear hx0
    simp only at q1 q2 q3 q4 h0 hhas HTR
    have g1 := (Sy.lk_has len q1).1
    have g2 := (Sy.dk_has far q3).1
    obtain ⟨sl,hsl⟩ : ∃ sl,sl = Sy.lk len := ⟨_,rfl⟩
    obtain ⟨sd,hsd⟩ : ∃ sd,sd = Sy.dk far := ⟨_,rfl⟩
    obtain ⟨vl,hvl⟩ : ∃ vl,vl = len - Sy.at' Sy.lf sl := ⟨_,rfl⟩
    obtain ⟨vd,hvd⟩ : ∃ vd,vd = far - Sy.at' Sy.df sd := ⟨_,rfl⟩
    obtain ⟨nl2,hnl⟩ : ∃ nl2,nl2 = Sy.at' Sy.lb sl := ⟨_,rfl⟩
    obtain ⟨nd2,hnd⟩ : ∃ nd2,nd2 = Sy.at' Sy.db sd := ⟨_,rfl⟩
    have b1 : vl < 2 ^ nl2 := by rw [hvl,hnl,hsl]; exact If.lsym_lt len q1 q2
    have b2 : vd < 2 ^ nd2 := by rw [hvd,hnd,hsd]; exact If.dsym_lt far q3 q4
    have b3 : nl2 <= 15 := by rw [hnl]; have := Sy.lb_le sl (by omega); omega
    have b4 : nd2 <= 15 := by rw [hnd]; have := Sy.db_le sd (by omega); omega
    have gl1 := fun W => len_go len q1 q2 W
    have gl2 := fun W => lenbits_go sl (by omega) W
    have gd1 := fun W => dist_go far q3 q4 W
    have gd2 := fun W => distbits_go sd (by omega) W
    rw [<- hsl] at gl1 HTR hhas
    rw [<- hvl] at gl1 HTR
    rw [<- hnl] at gl2 HTR
    rw [<- hsd] at gd1 HTR hhas
    rw [<- hvd] at gd1 HTR
    rw [<- hnd] at gd2 HTR
    have S1 := LH (scaled_lay hly E1 A1 B1 gA1 gL cA1 cL lit (HCD1.out.same fun k hk => ((HK1'.out k hk).step hfz).2) (fun k hk => ((HK1'.out k hk).step hfz).1) HTL.out len (257 + sl) vl nl2 hhas.1 b3 b1 62 63 Tryz.call62 Tryz.call63 gl1 gl2 (by have := HLL.out; omega))
    have S2 := LH (fun (w5 : World) (tv5 : Value) (l5 : List Bool) (h5 : Ly w0 w5 T tv5 l5) (f5 : Fz T tv w2 tv5 w5) (n5 : l5.length <= 10000000) => scaled_lay h5 E2 A2 B2 gA2 gD cA2 cD dist (HCD2.out.same fun k hk => ((HK2'.out k hk).step f5).2) (fun k hk => ((HK2'.out k hk).step f5).1) HTD.out far sd vd nd2 hhas.2 b4 b2 64 65 Tryz.call64 Tryz.call65 gd1 gd2 n5)
    have hfb : Fb T tvi (wr.alloc (.cells #[.int .i64 (len : Int),.int .i64 (far : Int),.int .u8 (x : Int)] 48)) wr.heap.size := ⟨by simp,by omega,by omega,by omega,fun e => by have := hown _ e; omega⟩
    have HFB := LH hfb
    have HFZ := LH hfz
    clear hly hfz hfb hvl hvd hnl hnd hsl hsd gl1 gl2 gd1 gd2 hval hhas hown KX1
    go_wp2_with fail
    refine S1.out.mono ?_
    rintro e w5 ⟨rfl,tv5,hly5,hfz5⟩
    have hx5 : Has w5 wr.heap.size (.cells #[.int .i64 (len : Int),.int .i64 (far : Int),.int .u8 (x : Int)] 48 (0,0)) := ((HFB.out.step hfz5).2).trans HBX.out
    obtain ⟨f0,f1,f2⟩ := tk_cells hx5
    have S2' := LH (S2.out w5 tv5 _ hly5 (HFZ.out.trans hfz5) (by have h1 := cw_le HTL.out (257 + sl); have h2 := HLL.out; unfold scaBits; simp only [List.length_append,Bs.bitsOf_length] at h2 ⊢; omega))
    have HF5 := LH (HFZ.out.trans hfz5)
    clear S1 S2 hly5 hfz5 hx5
    go_wp2_with fail
    refine S2'.out.mono ?_
    rintro e w6 ⟨rfl,tv6,hly6,hfz6⟩
    have H5 : Hid (Lx w0 w2 tv w6 T (l ++ If.toksRow lit dist (ts.take (i + 1)))) := by
     show Lx _ _ _ _ _ _
     rw [HSN.out,HTR.out,<- List.append_assoc]
     exact ⟨tv6,hly6,HF5.out.trans hfz6⟩
    clear S2' hly6 hfz6 f0 f1 f2
    go_wp2_with fail
    go_roundw
    case rel => first | exact ⟨i + 1,by omega,by go_num,H5⟩ | ((repeat apply Exists.intro); exact ⟨⟨i + 1,by omega,by go_num,H5⟩,rfl⟩)
    case measure => simp [intOf]; omega
  ·obtain rfl : i = n := by omega
   have htk : ts.take i = ts := List.take_of_length_le (by rw [<- HN.out]; exact Nat.le_refl _)
   rw [htk] at KX
   have HCC := LH (CODE1.out _ _ KX.out 256 HE.out)
   have hln : Hf.ln lit 256 <= 15 := (fit_code HTL.out HE.out).2.2
   have HLL : Hid ((l ++ If.toksRow lit dist ts).length <= 9000000) := by
    show _ <= _
    rw [List.length_append]
    have h1 := HLE.out
    have h2 := HN.out
    omega
   obtain ⟨L,hL⟩ : ∃ L,L = Hf.ln lit 256 := ⟨_,rfl⟩
   rw [<- hL] at HCC hln
   have HLX := LH hL
   clear hL htk hlt hi
   go_wp2_with fail
   refine (show Calls Tryz.prog 102 #[.int .i64 256,_,_,_] _ _ from HCC.out).mono ?_
   rintro e w4 ⟨a4,m4,c4,rfl,hs4,hb4⟩
   have HY := LH ((KX.out.later hb4).lay _ _ L hs4 (by show L = _; rw [Bs.bitsOf_length]) (by have := HLL.out; omega))
   clear HCC hs4 hb4 KX
   go_wp2_with fail
   refine HY.out.mono ?_
   rintro e w5 ⟨rfl,h5⟩
   rw [HLX.out,List.append_assoc] at h5
   have H5 := LH (show LayPost w0 w T tv (l ++ (If.toksRow lit dist ts ++ cw lit 256)) (.returned (.tuple #[])) w5 from by
    obtain ⟨tv5,h6,h7⟩ := h5
    exact ⟨rfl,tv5,h6,FZ.out.trans h7⟩)
   clear HY h5
   go_wp2
   exact ⟨rfl,.tuple #[],by simp [results,Tryz.results30,go_sem],H5.out⟩
end
section
open Go.RowKit
theorem expand_tks (tv : Value) (ts : List If.Tk) (most : Nat) (w : World) (ho : Tks w tv ts) (hts : If.Toks ts) (hm : (If.tell ts).length <= most) (h9 : most <= 65536) :
  Calls Tryz.prog 24 #[tv,.int .i64 (most : Int)] w fun e w' => ∃ v',e = .returned (.tuple #[v',.int .i64 0]) /\ w'.ownsRow w.heap.size 5 1 v' (If.tell ts).length (vb (If.tell ts)) /\ Below w.heap.size w w' := by
 obtain ⟨a0,cap0,hv⟩ : ∃ a cap,tv = .slice a ts.length cap := by obtain ⟨a,cap,h,_⟩ := ho; exact ⟨a,cap,h⟩
 subst hv
 have HO := LH ho
 have HT := LH (fun _ : Unit => hts)
 have HM := LH hm
 obtain ⟨n,hn⟩ : ∃ n,n = ts.length := ⟨_,rfl⟩
 have hn9 : n <= 65536 := by have := If.toks_length_le ts; omega
 rw [<- hn] at HO ⊢
 have HN := LH hn
 clear ho hts hm hn
 go_enter Tryz.func24,Tryz.ntmps24
 go_wp2_with fail
 go_loopw [6,18] (fun s6 s18 wr => ∃ (j q c6 : Nat) (a6 : Option Addr),s18 = .int .i64 (j : Int) /\ j <= n /\ s6 = .slice a6 q c6 /\ Hid (Unit -> q = (If.tell (ts.take j)).length) /\ Hid (wr.ownsRow w.heap.size 5 1 (.slice a6 q c6) q (vb (If.tell (ts.take j)))) /\ Hid (Below w.heap.size w wr)) (fun _ s _ => n - (intOf s).toNat)
 case atStart => exact ⟨0,0,0,none,rfl,Nat.zero_le _,rfl,fun _ => rfl,⟨rfl,Or.inl ⟨rfl,rfl⟩⟩,Below.refl _ _⟩
 case round =>
  obtain ⟨j,q,c6,a6,rfl,hj,rfl,KQ,KO,KB⟩ := hrel
  by_cases hlt : j < n
  ·have hjt : j < ts.length := by rw [<- HN.out]; exact hlt
   obtain ⟨hnn,b,off,rfl,hbl,k0,k1,k2⟩ := (HO.out.later KB.out).at' j ts[j] (List.getElem?_eq_getElem hjt)
   clear hnn hbl
   have hval := HT.out () j ts[j] (List.getElem?_eq_getElem hjt)
   have hsum := toks_sum (List.getElem?_eq_getElem hjt)
   have hle := HM.out
   obtain ⟨t,ht⟩ : ∃ t,t = ts[j] := ⟨_,rfl⟩
   rw [<- ht] at k0 k1 k2 hval hsum
   have HE : Hid (Unit -> If.tell (ts.take (j + 1)) = If.tell1 (If.tell (ts.take j)) t) := fun _ => by rw [If.tell_take_succ (List.getElem?_eq_getElem hjt),<- ht]
   obtain ⟨bs,hbs⟩ : ∃ bs,bs = If.tell (ts.take j) := ⟨_,rfl⟩
   have hq := KQ.out ()
   rw [<- hbs] at KO hval hsum HE hq
   have hq1 : q + If.sz t <= most := by omega
   have hq2 : t.far <= q := by rw [hq]; exact hval.2
   have hq3 : q <= 65536 := by omega
   have HF := LH (fun W => fits_ok t q most W hval.1 hq2 hq1 h9)
   have HTL := LH (fun v W ho hb => tell_any w.heap.size t v bs W hval ho hb (by omega))
   have HBS := LH (fun _ : Unit => hq)
   clear KQ
   obtain ⟨len,far,x⟩ := t
   unfold tkv at HF HTL
   simp only at k0 k1 k2 HF HTL
   clear hval hsum hle ht hbs hq hq1 hq2 hjt
   go_wp2_with fail
   refine (HF.out _).mono ?_
   rintro e w1 ⟨rfl,hb1⟩
   obtain ⟨hT,hb,_⟩ := facts1 hb1
   obtain ⟨d0,d1,d2⟩ := tk_cells hT
   have KB1 := LH (KB.out.trans (hb.mono KB.out.size))
   have KO1 := LH (own_keep KO.out hb)
   clear hb1 hT hb KB KO
   go_wp2_with fail
   refine (HTL.out _ _ (by rw [<- HBS.out ()]; exact KO1.out) KB1.out.size).mono ?_
   rintro e w2 ⟨v2,rfl,hO2,hB2⟩
   obtain ⟨a2,cap2,rfl⟩ := own_shape hO2
   obtain ⟨q2,hq2⟩ : ∃ q2,q2 = (If.tell1 bs ⟨len,far,x⟩).length := ⟨_,rfl⟩
   rw [<- hq2] at hO2
   rw [<- hq2]
   have KQ2 : Hid (Unit -> q2 = (If.tell (ts.take (j + 1))).length) := fun _ => by rw [HE.out (),hq2]
   have KO2 : Hid (w2.ownsRow w.heap.size 5 1 (.slice a2 q2 cap2) q2 (vb (If.tell (ts.take (j + 1))))) := by show World.ownsRow _ _ _ _ _ _ _; rw [HE.out ()]; exact hO2
   have KB2 := LH (KB1.out.trans hB2)
   clear hO2 hB2 hq2 HE HF HTL HBS KO1 KB1
   go_wp2_with fail
   go_roundw
   case rel => exact ⟨j + 1,q2,cap2,a2,by go_num,by omega,rfl,KQ2,KO2,KB2⟩
   case measure => simp [intOf]; omega
  ·obtain rfl : j = n := by omega
   have e : ts.take j = ts := List.take_of_length_le (by rw [<- HN.out]; exact Nat.le_refl _)
   rw [e] at KO KQ
   clear e
   go_wp2_with fail
   go_ret2
   have hq := KQ.out ()
   exact ⟨_,rfl,by rw [<- hq]; exact KO.out,KB.out⟩
end
section
open Go.RowKit
def bytk (bs : List Nat) : List If.Tk := bs.map fun b => ⟨0,0,b⟩
structure Pls (w : World) (g n : Nat) (bs : List Nat) (k : Nat) : Prop where
 lt : g < w.heap.size
 c0 : ∀ i,i < n -> w.cell? ⟨g,i * 3,none⟩ = some (.int .i64 0)
 c1 : ∀ i,i < n -> w.cell? ⟨g,i * 3 + 1,none⟩ = some (.int .i64 0)
 c2 : ∀ i,i < n -> w.cell? ⟨g,i * 3 + 2,none⟩ = some (.int .u8 ((if i < k then bs[i]?.getD 0 else 0 : Nat) : Int))
 f2 : ∀ i,i < n -> w.frozen? ⟨g,i * 3 + 2,none⟩ = false
theorem pls_start (w : World) (n : Nat) (bs : List Nat) : Pls (w.alloc (.cells (madeCells #[.int .i64 0,.int .i64 0,.int .u8 0] (n * 3)) 48)) w.heap.size n bs 0 := by
 have hx := Has.new w (.cells (madeCells #[.int .i64 0,.int .i64 0,.int .u8 0] (n * 3)) 48)
 have hget : ∀ j,j < n * 3 -> (w.alloc (.cells (madeCells #[.int .i64 0,.int .i64 0,.int .u8 0] (n * 3)) 48)).cell? ⟨w.heap.size,j,none⟩ = (madeCells #[.int .i64 0,.int .i64 0,.int .u8 0] (n * 3))[j]? := fun j hj => hx.cell j
 have mk : ∀ j,j < n * 3 -> (madeCells #[Value.int .i64 0,.int .i64 0,.int .u8 0] (n * 3))[j]? = some ((#[Value.int .i64 0,.int .i64 0,.int .u8 0] : Array Value)[j % 3]?.getD default) := fun j hj => by
  simp [madeCells,hj]
 refine ⟨hx.lt,fun i hi => ?_,fun i hi => ?_,fun i hi => ?_,fun i hi => hx.free _⟩
 ·rw [hget _ (by omega),mk _ (by omega),show i * 3 % 3 = 0 by omega]; rfl
 ·rw [hget _ (by omega),mk _ (by omega),show (i * 3 + 1) % 3 = 1 by omega]; rfl
 ·rw [hget _ (by omega),mk _ (by omega),show (i * 3 + 2) % 3 = 2 by omega,if_neg (by omega)]; rfl
theorem Pls.step {w : World} {g n : Nat} {bs : List Nat} {k : Nat} (h : Pls w g n bs k) (hk : k < n) : Pls (w.setCell ⟨g,k * 3 + 2,none⟩ (.int .u8 ((bs[k]?.getD 0 : Nat) : Int))) g n bs (k + 1) := by
 have ne : ∀ i j : Nat,i ≠ j -> (⟨g,i,none⟩ : Addr) ≠ ⟨g,j,none⟩ := fun i j hij e => hij (by cases e; rfl)
 refine ⟨by simpa using h.lt,fun i hi => ?_,fun i hi => ?_,fun i hi => ?_,fun i hi => by rw [World.frozen?_setCell]; exact h.f2 i hi⟩
 ·rw [World.cell?_setCell_other _ _ _ _ (ne _ _ (by omega))]; exact h.c0 i hi
 ·rw [World.cell?_setCell_other _ _ _ _ (ne _ _ (by omega))]; exact h.c1 i hi
 ·by_cases e : i = k
  ·subst e
   rw [if_pos (by omega)]
   exact World.cell?_setCell_same' _ _ _ (by rw [h.c2 i hi]; rfl)
  ·rw [World.cell?_setCell_other _ _ _ _ (ne _ _ (by omega)),h.c2 i hi]
   by_cases h1 : i < k
   ·rw [if_pos h1,if_pos (by omega)]
   ·rw [if_neg h1,if_neg (by omega)]
theorem Pls.tks {w : World} {g n : Nat} {bs : List Nat} (h : Pls w g n bs n) (hn : n = bs.length) : Tks w (.slice (some ⟨g,0,none⟩) n n) (bytk bs) := by
 refine ⟨_,n,by rw [hn]; unfold bytk; rw [List.length_map],fun _ => ⟨g,0,rfl,h.lt,fun i t ht => ?_⟩⟩
 unfold bytk at ht
 rw [List.getElem?_map,Option.map_eq_some_iff] at ht
 obtain ⟨b,hb,rfl⟩ := ht
 have hi : i < n := by have := (List.getElem?_eq_some_iff.1 hb).1; omega
 have h2 := h.c2 i hi
 rw [if_pos hi,hb] at h2
 rw [Nat.zero_add]
 exact ⟨h.c0 i hi,h.c1 i hi,h2⟩
theorem plain_tks (a : Option Addr) (n c : Nat) (bs : List Nat) (w : World) (hs : Sl w (.slice a n c) bs) (hn9 : n <= 65536) :
  Calls Tryz.prog 47 #[.slice a n c] w fun e w' => ∃ g,e = .returned (.slice (some ⟨g,0,none⟩) n n) /\ Tks w' (.slice (some ⟨g,0,none⟩) n n) (bytk bs) /\ Below w.heap.size w w' := by
 have hn := hs.len.1
 have HS := LH hs
 have HN := LH hn
 obtain ⟨i0,hi,hz⟩ := Option.map_eq_some_iff.1 Tryz.infoTok
 simp only [Prod.mk.injEq] at hz
 obtain ⟨hz0,hz1,hz2⟩ := hz
 have hmk : ∀ W,(Instr.makeSlice 30 (.int .i64 (n : Int)) (.int .i64 (n : Int))).run Tryz.prog W = .ok (.slice (some ⟨W.heap.size,0,none⟩) n n) (W.alloc (.cells (madeCells #[.int .i64 0,.int .i64 0,.int .u8 0] (n * 3)) 48)) := fun W => by
  have h := run_make (P := Tryz.prog) W 30 48 i0 _ Tryz.underlying30 hi hz0 .i64 .i64 (n : Int) (n : Int) (by omega) (Int.le_refl _) (by rw [hz2]; omega) (by omega)
  rw [hz1,Int.toNat_natCast] at h
  exact h
 clear hs hn hi hz0 hz1 hz2
 go_enter Tryz.func47,Tryz.ntmps47
 go_wp2_with fail
 go_loopw [11] (fun s wr => ∃ k : Nat,k <= n /\ s = .int .i64 k /\ Hid (Pls wr w.heap.size n bs k) /\ Hid (Below w.heap.size w wr)) (fun s _ => n - (intOf s).toNat)
 case atStart => exact ⟨0,Nat.zero_le _,rfl,pls_start w n bs,below1 _ _⟩
 case round =>
  obtain ⟨k,hk,rfl,KP,KB⟩ := hrel
  by_cases hlt : k < n
  ·obtain ⟨b,off,rfl,-,rc,-,-⟩ := (show Sl _ (.slice a n c) bs from HS.out).at k hlt
   have hlb : b < w.heap.size := World.block_lt_of_cell? _ _ rc
   have r1 := (KB.out.cell (p := ⟨b,off + k,none⟩) hlb).trans rc
   have q2 := KP.out.c2 k hlt
   have qf := KP.out.f2 k hlt
   have HP2 := LH (KP.out.step hlt)
   obtain ⟨x,hx⟩ : ∃ x,x = bs[k]?.getD 0 := ⟨_,rfl⟩
   rw [<- hx] at r1 HP2
   have HB2 := LH (KB.out.setCell (p := ⟨w.heap.size,k * 3 + 2,none⟩) (Nat.le_refl _) (.int .u8 (x : Int)))
   have b1 : (k : Int) < (n : Int) := by omega
   clear hx rc hlb KP KB
   go_wp2_with fail
   go_round
   case rel => exact ⟨k + 1,by omega,by go_num,HP2,HB2⟩
   case measure => simp [intOf]; omega
  ·obtain rfl : k = n := by omega
   go_wp2_with fail
   go_ret
   exact ⟨_,rfl,KP.out.tks HN.out,KB.out⟩
end
section
namespace If
theorem tell_from (ts : List Tk) : ∀ out : List Nat,(ts.foldl tell1 out).length = out.length + (ts.map sz).sum := by
 induction ts with
 | nil => intro out; simp
 | cons t ts ih => intro out; rw [List.foldl_cons,ih,tell1_length,List.map_cons,List.sum_cons]; omega
theorem tell_len (ts : List Tk) : (tell ts).length = (ts.map sz).sum := by
 unfold tell
 rw [tell_from]
 simp
end If
namespace Mt
def all (bs : List Nat) (depth : Nat) : List If.Tk := fnd bs depth (bs.length + 1) 0
theorem all_tell {bs : List Nat} (h8 : ∀ x ∈ bs,x < 256) (depth : Nat) : If.tell (all bs depth) = bs := by
 have := fnd_tell h8 depth (bs.length + 1) 0 (by omega) (Nat.zero_le _)
 exact this
theorem all_toks {bs : List Nat} (h8 : ∀ x ∈ bs,x < 256) (depth : Nat) : If.Toks (all bs depth) := by
 intro i t ht
 obtain ⟨n,n1,n2,n3⟩ := fnd_ok h8 depth (bs.length + 1) 0 i t (Nat.zero_le _) ht
 have e : n = (If.tell ((all bs depth).take i)).length := by
  rw [If.tell_len,n3]
  unfold all
  omega
 rw [<- e]
 exact n1
end Mt
theorem bytk_tell : ∀ (bs out : List Nat),(bytk bs).foldl If.tell1 out = out ++ bs
 | [],out => by simp [bytk]
 | b :: bs,out => by
  have e : bytk (b :: bs) = ⟨0,0,b⟩ :: bytk bs := rfl
  have h : If.tell1 out ⟨0,0,b⟩ = out ++ [b] := by unfold If.tell1; rw [if_pos rfl]
  rw [e,List.foldl_cons,h,bytk_tell bs,List.append_assoc]
  rfl
theorem bytk_all (bs : List Nat) : If.tell (bytk bs) = bs := by
 have := bytk_tell bs []
 exact this
theorem bytk_toks {bs : List Nat} (h8 : ∀ x ∈ bs,x < 256) : If.Toks (bytk bs) := by
 intro i t ht
 unfold bytk at ht
 rw [List.getElem?_map,Option.map_eq_some_iff] at ht
 obtain ⟨b,hb,rfl⟩ := ht
 exact ⟨Or.inl ⟨rfl,rfl,h8 _ (List.mem_of_getElem? hb)⟩,Nat.zero_le _⟩
end
end Go.Proofs.YtmgpcbjciioiaaaGreatDoor
