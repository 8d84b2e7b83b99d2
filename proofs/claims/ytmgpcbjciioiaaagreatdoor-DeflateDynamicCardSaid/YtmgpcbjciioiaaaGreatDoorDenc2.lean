import Derived.Test.YtmgpcbjciioiaaaGreatDoorDsto
import Derived.Test.YtmgpcbjciioiaaaGreatDoorDsho
import Derived.Test.YtmgpcbjciioiaaaGreatDoorMref
import Derived.Test.YtmgpcbjciioiaaaGreatDoorDtis
namespace Go.Proofs.YtmgpcbjciioiaaaGreatDoor
set_option maxRecDepth 100000
set_option maxHeartbeats 8000000
section
open Go.RowKit
theorem stream_row (F : FuncId) (caps : Array Value) (hcall : ∀ (args : Array Value) (wx : World),(callFunc F args).run Tryz.prog wx = .ok (.enter F args) wx) (w : World) (Q : List Bool -> Prop)
  (hw : Calls Tryz.prog F (#[LF w.heap.size] ++ caps) (boxes w) fun e w' => ∃ l,Q l /\ LayPost w (boxes w) w.heap.size (.slice none 0 0) l e w') :
  Calls Tryz.prog 25 #[.func (.func F) #[] caps] w fun e w' => ∃ l,Q l /\ StrPost w (Bs.pack l) e w' := by
 have HW := LH hw
 clear hw
 go_enter Tryz.func25,Tryz.ntmps25
 go_wp2_with fail
 refine (show Calls Tryz.prog F (#[LF w.heap.size] ++ caps) (boxes w) _ from HW.out).mono ?_
 clear HW
 rintro e w3 ⟨l,hq,rfl,tv,hl,_⟩
 have HQ := LH hq
 clear hq
 have hb := hl.b
 obtain ⟨ra,rm,rc,hr,hrs,hrc⟩ := hl.r
 obtain ⟨ht,hto⟩ := hl.t
 obtain ⟨d0,_⟩ := (show Has w3 (w.heap.size + 1 + 1) _ from hl.f).one
 obtain ⟨c0,_,_,_⟩ := hr.two
 obtain ⟨t0,_⟩ := ht.one
 have hn := hl.n
 have hsz3 : w.heap.size <= w3.heap.size := by have := hl.f.lt; omega
 have hrl := hrs.len.1
 rw [Bs.pack_length,Bs.rest_length] at hrl
 obtain ⟨v',w4,hrun,hown,hg⟩ := app_any w3 w.heap.size (l.length / 8) tv _ hto ra rm rc _ 22 hrs (by omega) (by omega) hsz3
 have e1 : l.length / 8 + rm = (Bs.pack l).length := by rw [Bs.pack_length]; omega
 rw [Bs.whole_rest,e1] at hown
 obtain ⟨av,cv,rfl⟩ := own_slice hown
 obtain ⟨at',ct,rfl⟩ := own_slice hto
 have HRUN := LH hrun
 have HOWN := LH hown
 have HB := LH (hb.grown hg hsz3 (fun q hq => (World.ownsRow.lt hto q hq).1))
 obtain ⟨pl,hpl⟩ : ∃ pl,pl = (Bs.pack l).length := ⟨_,rfl⟩
 rw [<- hpl] at HOWN HRUN
 have HPL := LH hpl
 clear hpl
 clear hl hb hr hrs hrc ht hto hn hrl hrun hown hg e1
 go_wp2_with (at_builtin; (refine wpList_append_is rfl (.tmp 13) (.tmp 15) 22 rfl _ _ _ _ rfl rfl HRUN.out ?_))
 refine bodyPost_ret (v := .tuple #[.slice av pl cv,.int .i64 0]) (by simp [results,Tryz.results25,go_sem]) rfl ⟨l,HQ.out,_,rfl,by rw [<- HPL.out]; exact HOWN.out,HB.out⟩
def DynQ (L D : List Nat) (ts : List If.Tk) (l : List Bool) : Prop := ∃ C c,If.HV L D C c (rnL (L ++ D)) /\ l = If.dynRow L D C c (rnL (L ++ D)) ts
theorem head_few {L D C : List Nat} {c : Nat} (h : If.HV L D C c (rnL (L ++ D))) (h15 : ∀ x ∈ L ++ D,x <= 15) : (If.headRow L D C c (rnL (L ++ D))).length <= 100000 := by
 rw [If.headRow_length]
 have q1 := opsRow_le C (fun i => by have := h.c8 i; omega) (rnL (L ++ D))
 have q2 := Dp.rnL_few (L ++ D) h15
 have q3 := h.l2
 have q4 := h.d2
 have q5 := h.c2
 rw [List.length_append] at q2
 omega
theorem nat_ln {w : World} {g : Nat} {ls : List Nat} (h : Nat9 w g 0 ls) : ∀ i,i < ls.length -> w.cell? ⟨g,i,none⟩ = some (.int .i64 ((Hf.ln ls i : Nat) : Int)) := fun i hi => by
 have := h.2 i hi
 rw [Nat.zero_add] at this
 exact this
theorem ln_nat {w : World} {g : Nat} {ls : List Nat} (hg : g < w.heap.size) (h : ∀ i,i < ls.length -> w.cell? ⟨g,i,none⟩ = some (.int .i64 ((Hf.ln ls i : Nat) : Int))) : Nat9 w g 0 ls := ⟨hg,fun i hi => by
 rw [Nat.zero_add]
 exact h i hi⟩
theorem dyn1_lay (w : World) (P PL PD : Nat) (a : Option Addr) (n c gL kL gD kD : Nat) (L D : List Nat) (ts : List If.Tk) (hgl : Glob w)
  (hp : Has w P (.cells #[.slice a n c] 30 (0,0))) (hpL : Has w PL (.cells #[.slice (some ⟨gL,0,none⟩) L.length kL] 57 (0,0))) (hpD : Has w PD (.cells #[.slice (some ⟨gD,0,none⟩) D.length kD] 57 (0,0)))
  (hs : Tks w (.slice a n c) ts) (hn : n = ts.length) (hn9 : n <= 65536) (hv : ∀ t ∈ ts,If.Byt t ∨ If.Cop t) (hL : Nat9 w gL 0 L) (hD : Nat9 w gD 0 D)
  (hL1 : 257 <= L.length) (hL2 : L.length <= 286) (hD1 : 1 <= D.length) (hD2 : D.length <= 30) (h15 : ∀ x ∈ L ++ D,x <= 15) (tL : Fit (Hd.zz L)) (tD : Fit (Hd.zz D)) (hh : ∀ t ∈ ts,If.Has1 L D t) (he : Hf.ln L 256 ≠ 0) :
  Calls Tryz.prog 42 #[LF w.heap.size,.pointer (some ⟨PL,0,none⟩),.pointer (some ⟨PD,0,none⟩),.pointer (some ⟨P,0,none⟩)] (boxes w) fun e w' => ∃ l,DynQ L D ts l /\ LayPost w (boxes w) w.heap.size (.slice none 0 0) l e w' := by
 have hly := boxes_ly w
 have HB := LH (begin_lay hly true 2 (by decide) (by simp))
 have HP := LH (fun W (hb : Below w.heap.size w W) => And.intro (hp.later hb).one.1 (And.intro (hpL.later hb).one.1 (hpD.later hb).one.1))
 have PUT := LH (fun W (hb : Below w.heap.size w W) => header_put L D gL 0 kL gD 0 kD W (hgl.later hb) (hL.later hb) (hD.later hb) hL1 hL2 hD1 hD2 h15)
 have FEW := LH (fun C c (h : If.HV L D C c (rnL (L ++ D))) => head_few h h15)
 have htk : ∀ W,Below w.heap.size w W -> Tks W (.slice a n c) ts := fun W hb => hs.later hb
 have SYM : Hid (∀ (row : List Bool) (W : World),Lx w (boxes w) (.slice none 0 0) W w.heap.size ([] ++ begBits true 2 ++ row) -> row.length <= 100000 ->
   Calls Tryz.prog 30 #[LF w.heap.size,.slice a n c,.slice (some ⟨gL,0,none⟩) L.length kL,.slice (some ⟨gD,0,none⟩) D.length kD] W fun e w' => e = .returned (.tuple #[]) /\ Lx w (boxes w) (.slice none 0 0) w' w.heap.size ([] ++ begBits true 2 ++ row ++ (If.toksRow L D ts ++ cw L 256))) := by
  intro row W h1 hrow
  have hbW := h1.b
  obtain ⟨tv1,hly1,hfz1⟩ := h1
  have hfb : ∀ g,g < w.heap.size -> Fb w.heap.size tv1 W g := fun g k1 => ⟨Nat.lt_of_lt_of_le k1 hbW.size,by omega,by omega,by omega,fun e => by have := (World.ownsRow.lt hly1.t.2 g e).1; omega⟩
  refine (symbols_lay hly1 a n c ts htk hn L D gL kL gD kD (nat_ln (hL.later hbW)) (nat_ln (hD.later hbW)) (hfb gL hL.1) (hfb gD hD.1) tL tD (by omega) (by omega) (by omega) (by omega) hv hh he (by simp [begBits,Bs.bitsOf_length]; omega)).mono ?_
  rintro e w' ⟨rfl,tv',h8,h9⟩
  exact ⟨rfl,tv',h8,hfz1.trans h9⟩
 clear hly hp hpL hpD hs hn hn9 hv htk hL hD hL1 hL2 hD1 hD2 h15 tL tD hh he hgl
 go_enter Tryz.func42,Tryz.ntmps42
 go_wp2_with fail
 refine (show Calls Tryz.prog 29 #[_,_,.int .i64 2] _ _ from HB.out).mono ?_
 clear HB
 rintro e w1 ⟨rfl,h1⟩
 have H1 := LH (show Lx w (boxes w) (.slice none 0 0) w1 w.heap.size ([] ++ begBits true 2) from h1)
 obtain ⟨p0,pL,pD⟩ := HP.out w1 H1.out.b
 have PU := LH (PUT.out w1 H1.out.b)
 clear h1 PUT
 go_wp2_with fail
 refine PU.out.mono ?_
 clear PU
 rintro e w2 ⟨C,cc,g,m,hHV,rfl,hsl,hb⟩
 have hfew := FEW.out C cc hHV
 obtain ⟨row,hrow⟩ : ∃ x,x = If.headRow L D C cc (rnL (L ++ D)) := ⟨_,rfl⟩
 rw [<- hrow] at hsl hfew ⊢
 obtain ⟨nr,hnr⟩ : ∃ x,x = row.length := ⟨_,rfl⟩
 rw [<- hnr]
 have LAY := LH ((H1.out.later hb).lay (.slice (some ⟨g,0,none⟩) m m) row nr hsl (LH hnr) (by simp [begBits,Bs.bitsOf_length]; omega))
 have SY := LH (fun W h => SYM.out row W h hfew)
 have HROW := LH (And.intro hHV hrow)
 clear hHV hrow hnr hsl hb hfew FEW SYM H1 p0 pL pD
 go_wp2_with fail
 refine (show Calls Tryz.prog 57 #[.agg #[.slice (some ⟨g,0,none⟩) m m,.int .i64 (nr : Int)],.int .i64 0,_,_,_] _ _ from LAY.out).mono ?_
 clear LAY
 rintro e w3 ⟨rfl,h3⟩
 obtain ⟨p0,pL,pD⟩ := HP.out w3 h3.b
 have S3 := LH (SY.out w3 h3)
 clear HP SY h3
 go_wp2_with fail
 refine S3.out.mono ?_
 clear S3
 rintro e w4 ⟨rfl,h4⟩
 have H4 := LH h4
 clear h4 p0 pL pD
 go_wp2
 refine ⟨rfl,.tuple #[],by simp [results,Tryz.results42,go_sem],_,⟨C,cc,HROW.out.1,rfl⟩,?_⟩
 have h := H4.out.post
 rw [HROW.out.2,List.nil_append,List.append_assoc] at h
 exact h
end
section
open Go.RowKit
namespace Dp
theorem best_le15 (fs : List Nat) (hl : fs.length <= 288) : ∀ x ∈ best fs,x <= 15 := fun x hx => by
 obtain ⟨i,hi⟩ := List.getElem?_of_mem hx
 have := best_15 fs hl i
 unfold Hf.ln at this
 rw [hi] at this
 exact this
theorem best_sizes (ts : List If.Tk) (he : Hf.ln (best (litF ts)) 256 ≠ 0) : 257 <= (best (litF ts)).length /\ (best (litF ts)).length <= 286 /\ 1 <= (best (distF ts)).length /\ (best (distF ts)).length <= 30 := by
 refine ⟨?_,?_,?_,?_⟩
 ·rcases Nat.lt_or_ge 256 (best (litF ts)).length with h | h
  ·omega
  ·exact absurd (best_ge _ 256 h) he
 ·rw [best_length,litF_length]; exact trim_le _ _
 ·rw [best_length,distF_length]; exact trim_pos _ _ (by omega)
 ·rw [best_length,distF_length]; exact trim_le _ _
theorem best_all15 (ts : List If.Tk) : ∀ x ∈ best (litF ts) ++ best (distF ts),x <= 15 := fun x hx => by
 rcases List.mem_append.1 hx with h | h
 ·exact best_le15 _ (by rw [litF_length]; omega) x h
 ·exact best_le15 _ (by rw [distF_length]; omega) x h
end Dp
theorem two_set (w : World) (u v : Value) : ∃ W,W = (w.alloc (.cells #[u] 57)).alloc (.cells #[v] 57) /\
  Below w.heap.size w W /\ Has W w.heap.size (.cells #[u] 57 (0,0)) /\ Has W (w.heap.size + 1) (.cells #[v] 57 (0,0)) := by
 have z1 : (w.alloc (.cells #[u] 57)).heap.size = w.heap.size + 1 := by simp
 have b1 := below1 w (.cells #[u] 57)
 have b2 := below1 (w.alloc (.cells #[u] 57)) (.cells #[v] 57)
 have n1 := (Has.new w (.cells #[u] 57)).later b2
 have n2 := Has.new (w.alloc (.cells #[u] 57)) (.cells #[v] 57)
 rw [z1] at n2
 exact ⟨_,rfl,b1.trans (b2.mono (by omega)),n1,n2⟩
theorem dynamic_ok (a : Option Addr) (n c : Nat) (ts : List If.Tk) (w : World) (hgl : Glob w) (hs : Tks w (.slice a n c) ts) (hn : n = ts.length) (hts : If.Toks ts) (hl : (If.tell ts).length <= 65536) :
  Calls Tryz.prog 18 #[.slice a n c] w fun e w' => ∃ l,DynQ (Dp.best (Dp.litF ts)) (Dp.best (Dp.distF ts)) ts l /\ StrPost w (Bs.pack l) e w' := by
 have hb1 := below1 w (.cells #[.slice a n c] 30)
 have hx := Has.new w (.cells #[.slice a n c] 30)
 have hn9 : n <= 65536 := by have := If.toks_length_le ts; omega
 have hv := If.toks_vals hts
 have HE := LH (expand_tks (.slice a n c) ts 65536 (w.alloc (.cells #[.slice a n c] 30)) (hs.later hb1) hts hl (Nat.le_refl _))
 have HFT := LH (fun W (hb : Below (w.alloc (.cells #[.slice a n c] 30)).heap.size (w.alloc (.cells #[.slice a n c] 30)) W) => fitting_ok a n c ts W ((hs.later hb1).later hb) hn hv hn9)
 have hfh := Dp.fits_has ts hv
 obtain ⟨s1,s2,s3,s4⟩ := Dp.best_sizes ts hfh.2
 have HST := LH (fun (W : World) (hb : Below (w.alloc (.cells #[.slice a n c] 30)).heap.size (w.alloc (.cells #[.slice a n c] 30)) W) (PL PD gL gD : Nat)
   (hL : Nat9 W gL 0 (Dp.best (Dp.litF ts))) (hD : Nat9 W gD 0 (Dp.best (Dp.distF ts))) (hpL : Has W PL (.cells #[.slice (some ⟨gL,0,none⟩) (Dp.best (Dp.litF ts)).length 286] 57 (0,0))) (hpD : Has W PD (.cells #[.slice (some ⟨gD,0,none⟩) (Dp.best (Dp.distF ts)).length 30] 57 (0,0))) =>
  stream_row 42 #[.pointer (some ⟨PL,0,none⟩),.pointer (some ⟨PD,0,none⟩),.pointer (some ⟨w.heap.size,0,none⟩)] Tryz.call42 W (DynQ (Dp.best (Dp.litF ts)) (Dp.best (Dp.distF ts)) ts)
   (dyn1_lay W w.heap.size PL PD a n c gL 286 gD 30 _ _ ts ((hgl.later hb1).later hb) (hx.later hb) hpL hpD ((hs.later hb1).later hb) hn hn9 hv hL hD s1 s2 s3 s4 (Dp.best_all15 ts)
    (Dp.best_fit _ (by rw [Dp.litF_length]; omega) (by rw [Dp.litF_length]; omega)) (Dp.best_fit _ (by rw [Dp.distF_length]; omega) (by rw [Dp.distF_length]; omega)) hfh.1 hfh.2))
 have HB := LH hb1
 have HX := LH hx
 obtain ⟨nL,hnL⟩ : ∃ x,x = (Dp.best (Dp.litF ts)).length := ⟨_,rfl⟩
 obtain ⟨nD,hnD⟩ : ∃ x,x = (Dp.best (Dp.distF ts)).length := ⟨_,rfl⟩
 unfold FitPost at HFT
 rw [<- hnL,<- hnD] at HST HFT
 clear hs hn hts hl hb1 hx hn9 hv hfh hgl s1 s2 s3 s4
 have HNL := LH (And.intro hnL hnD)
 clear hnL hnD
 go_enter Tryz.func18,Tryz.ntmps18
 go_wp2_with fail
 refine (show Calls Tryz.prog 24 #[_,.int .i64 65536] _ _ from HE.out).mono ?_
 clear HE
 rintro e w1 ⟨v,rfl,_,hb⟩
 have HF1 := LH (HFT.out w1 hb)
 have HB1 := LH (HB.out.trans (hb.mono HB.out.size))
 have HBX := LH hb
 have hx1 := HX.out.later hb
 obtain ⟨c0,_⟩ := hx1.one
 have HX1 := LH hx1
 clear HFT HX hx1 hb
 go_wp2_with fail
 refine HF1.out.mono ?_
 clear HF1 c0
 rintro e w2 ⟨gL,gD,rfl,hL1,hL2,hD1,hD2,hL3,hD3,hb2⟩
 obtain ⟨W,hW,hbW,hpL,hpD⟩ := two_set w2 (.slice (some ⟨gL,0,none⟩) nL 286) (.slice (some ⟨gD,0,none⟩) nD 30)
 have hST := HST.out W (HBX.out.trans ((hb2.trans (hbW.mono hb2.size)).mono HBX.out.size)) w2.heap.size (w2.heap.size + 1) gL gD ((ln_nat hL2 (by rw [<- HNL.out.1]; exact hL3)).later hbW) ((ln_nat hD2 (by rw [<- HNL.out.2]; exact hD3)).later hbW) hpL hpD
 have HS2 := LH hST
 have HBW := LH (HB1.out.trans ((hb2.trans (hbW.mono hb2.size)).mono HB1.out.size))
 have V := LH hW
 clear hST HST hW hbW hpL hpD hL1 hL2 hD1 hD2 hL3 hD3 hb2 HB1 HB HBX HX1
 go_wp2_with fail
 rw [<- V.out]
 refine HS2.out.mono ?_
 clear HS2 V
 rintro e w3 ⟨l,hq,v2,rfl,ho,hb2⟩
 have HO := LH (own_weaken ho HBW.out.size)
 have HBB := LH (HBW.out.trans (hb2.mono HBW.out.size))
 have HQ := LH hq
 clear ho hb2 hq HBW
 go_wp2
 refine bodyPost_ret (v := .tuple #[v2,.int .i64 0]) (by simp [results,Tryz.results18,go_sem]) rfl ⟨l,HQ.out,_,rfl,HO.out,HBB.out⟩
theorem dyn_toks {ts : List If.Tk} (h : If.Toks ts) (most : Int) (h1 : ((If.tell ts).length : Int) <= most) (h2 : most <= 65536) {l : List Bool} (hq : DynQ (Dp.best (Dp.litF ts)) (Dp.best (Dp.distF ts)) ts l) :
  If.decode (If.bb (Bs.pack l)) most = (If.tell ts,(Bs.pack l).length,0) := by
 obtain ⟨C,c,hv,rfl⟩ := hq
 have hfh := Dp.fits_has ts (If.toks_vals h)
 have hL : newE (Hd.zz (Dp.best (Dp.litF ts))) = 0 := Dp.best_new _ (by rw [Dp.litF_length]; omega) 256 (by
  rw [Dp.litF_get ts 256 (by omega)]
  have := List.count_pos_iff.2 (show 256 ∈ ([Dp.lits ts,Dp.lens ts,[256]] : List (List Nat)).flatten by simp)
  omega)
 have hD : newE (Hd.zz (Dp.best (Dp.distF ts))) = 0 ∨ ∀ x ∈ Dp.best (Dp.distF ts),x = 0 := by
  by_cases hx : ∃ i : Nat,(Dp.distF ts)[i]?.getD 0 ≠ 0
  ·obtain ⟨i,hi⟩ := hx
   exact Or.inl (Dp.best_new _ (by rw [Dp.distF_length]; omega) i hi)
  ·exact Or.inr (Dp.best_none _ (by rw [Dp.distF_length]; omega) fun i => Decidable.byContradiction fun hn => hx ⟨i,hn⟩)
 exact If.dyn_decode hv most (by omega) h2 hL hD hfh.2 hfh.1 (If.tv_of h (by omega)) (If.toksRow_ge hfh.1)
end
section
open Go.RowKit Go.Maps
theorem find_none (a : Option Addr) (cap d : Nat) (w : World) (hd : 1 <= d) (hd2 : d <= 4096) :
  Calls Tryz.prog 46 #[.slice a 0 cap,.int .i64 (d : Int)] w fun e w' => e = .returned (.tuple #[.slice none 0 0,.int .i64 0]) /\ Below w.heap.size w w' := by
 have hmm := @run_makeMap Tryz.prog
 have c2 : ¬ (d : Int) < 1 := by omega
 have c3 : ¬ (4096 : Int) < (d : Int) := by omega
 obtain ⟨W,hW,_,hB0,hz0⟩ := places_new w []
 have HB0 := LH hB0
 have V := LH hW
 clear hW hB0 hz0
 go_enter Tryz.func46,Tryz.ntmps46
 go_wp2_with fail
 rw [<- V.out]
 clear V
 go_loopw [6,8] (fun s6 s8 wr => s6 = .slice none 0 0 /\ s8 = .int .i64 0 /\ Hid (Below w.heap.size w wr)) (fun _ _ _ => 0)
 case atStart => exact ⟨rfl,rfl,HB0⟩
 case round =>
  obtain ⟨rfl,rfl,KB⟩ := hrel
  go_wp2_with fail
  go_ret2
  exact ⟨rfl,KB.out⟩
theorem tks_own {w : World} {base n : Nat} {v : Value} {ts : List If.Tk} (h : w.ownsRow base 48 3 v n (tc ts)) (hn : n = ts.length) : Tks w v ts := by
 subst hn
 obtain ⟨a,c,rfl⟩ := own_slice h
 refine ⟨a,c,rfl,fun h0 => ?_⟩
 obtain ⟨b,off,cap,hv,c0,c1,c2⟩ := own_token h 0 h0
 cases hv
 refine ⟨b,off,rfl,World.block_lt_of_cell? _ _ c0,fun i t ht => ?_⟩
 obtain ⟨hi,he⟩ := List.getElem?_eq_some_iff.1 ht
 obtain ⟨b',off',cap',hv,e0,e1,e2⟩ := own_token h i hi
 cases hv
 rw [he] at e0 e1 e2
 exact ⟨e0,e1,e2⟩
theorem find_any (a : Option Addr) (n cap d : Nat) (bs : List Nat) (w : World) (hs : Sl w (.slice a n cap) bs) (hcp : n <= cap) (h9 : n <= 65536) (hd : 1 <= d) (hd2 : d <= 4096) :
  Calls Tryz.prog 46 #[.slice a n cap,.int .i64 (d : Int)] w fun e w' => ∃ aF kF cF,e = .returned (.tuple #[.slice aF kF cF,.int .i64 0]) /\ kF = (Mt.all bs d).length /\ Tks w' (.slice aF kF cF) (Mt.all bs d) /\ Below w.heap.size w w' := by
 obtain ⟨hn,_⟩ := hs.len
 have h8 : ∀ x ∈ bs,x < 256 := by obtain ⟨_,_,_,_,_,_,_,h,_⟩ := hs; exact h
 by_cases h0 : n = 0
 ·subst h0
  obtain rfl : bs = [] := List.eq_nil_of_length_eq_zero hn.symm
  refine (find_none a cap d w hd hd2).mono ?_
  rintro e w' ⟨rfl,hb⟩
  have e0 : Mt.all [] d = [] := rfl
  exact ⟨none,0,0,rfl,by rw [e0]; rfl,by rw [e0]; exact ⟨none,0,rfl,fun h => absurd h (by simp)⟩,hb⟩
 ·obtain ⟨b,off,rfl,_,rc,_,_⟩ := hs.at 0 (by omega)
  have hlb : b < w.heap.size := World.block_lt_of_cell? _ _ rc
  have hbt : Bt w b off bs := ⟨hlb,fun j hj => by
   obtain ⟨b',off',he,_,rc,_,_⟩ := hs.at j (by omega)
   cases he
   exact rc⟩
  refine (find_some b off cap n d bs w hbt h8 hn h9 hcp hd hd2).mono ?_
  rintro e w' ⟨v,rfl,ho,hb⟩
  obtain ⟨aF,cF,rfl⟩ := own_slice ho
  exact ⟨aF,_,cF,rfl,rfl,tks_own ho rfl,hb⟩
end
section
open Go.RowKit Go.Maps
def PkF (ts : List If.Tk) (out : List Nat) : Prop := out = Bs.pack (If.fixRow ts)
def PkD (ts : List If.Tk) (out : List Nat) : Prop := ∃ l,DynQ (Dp.best (Dp.litF ts)) (Dp.best (Dp.distF ts)) ts l /\ out = Bs.pack l
def Src (bs : List Nat) (d : Nat) (out : List Nat) : Prop := out = If.stoS bs ∨ ∃ ts,(ts = Mt.all bs d ∨ ts = bytk bs) /\ (PkF ts out ∨ PkD ts out)
structure Pkd (w0 w : World) (bs : List Nat) (d : Nat) (v : Value) (n : Nat) (out : List Nat) : Prop where
 own : w.ownsRow w0.heap.size 5 1 v n (vb out)
 len : n = out.length
 src : Src bs d out
 sto : out.length <= (If.stoS bs).length
theorem Pkd.later {w0 w w' : World} {bs : List Nat} {d : Nat} {v : Value} {n : Nat} {out : List Nat} (h : Pkd w0 w bs d v n out) (hb : Below w.heap.size w w') : Pkd w0 w' bs d v n out := ⟨own_stays h.own hb,h.len,h.src,h.sto⟩
theorem pkd_min {w0 w : World} {bs : List Nat} {d : Nat} {a b : Option Addr} {n c m k : Nat} {out o2 : List Nat} (h : Pkd w0 w bs d (.slice a n c) n out) (h2 : w.ownsRow w0.heap.size 5 1 (.slice b m k) m (vb o2)) (hm : m = o2.length) (hs : Src bs d o2) :
  ∃ (a3 : Option Addr) (n3 c3 : Nat) (o3 : List Nat),(m < n /\ Value.slice a3 n3 c3 = .slice b m k ∨ n <= m /\ Value.slice a3 n3 c3 = .slice a n c) /\ Pkd w0 w bs d (.slice a3 n3 c3) n3 o3 /\ o3.length <= out.length /\ o3.length <= o2.length := by
 have hl := h.len
 by_cases e : m < n
 ·exact ⟨b,m,k,o2,Or.inl ⟨e,rfl⟩,⟨h2,hm,hs,by have := h.sto; omega⟩,by omega,Nat.le_refl _⟩
 ·exact ⟨a,n,c,out,Or.inr ⟨by omega,rfl⟩,h,Nat.le_refl _,by omega⟩
def EncPost (w : World) (bs : List Nat) (d : Nat) (e : Ending) (w' : World) : Prop :=
 ∃ a n c out,e = .returned (.tuple #[.slice a n c,.int .i64 0]) /\ Pkd w w' bs d (.slice a n c) n out /\ out.length <= (Bs.pack (If.fixRow (Mt.all bs d))).length /\ Below w.heap.size w w'
theorem fix_go (a : Option Addr) (n c : Nat) (ts : List If.Tk) (w : World) (hs : Tks w (.slice a n c) ts) (hn : n = ts.length) (hts : If.Toks ts) (hl : (If.tell ts).length <= 65536) :
  Calls Tryz.prog 15 #[.slice a n c] w fun e w' => ∃ b m k out,e = .returned (.tuple #[.slice b m k,.int .i64 0]) /\ w'.ownsRow w.heap.size 5 1 (.slice b m k) m (vb out) /\ m = out.length /\ PkF ts out /\ Below w.heap.size w w' := by
 refine (fixed_ok a n c ts w hs hn hts hl).mono ?_
 rintro e w' ⟨v,rfl,ho,hb⟩
 obtain ⟨b,k,rfl⟩ := own_slice ho
 exact ⟨b,_,k,_,rfl,ho,rfl,rfl,hb⟩
theorem dyn_go (a : Option Addr) (n c : Nat) (ts : List If.Tk) (w : World) (hg : Glob w) (hs : Tks w (.slice a n c) ts) (hn : n = ts.length) (hts : If.Toks ts) (hl : (If.tell ts).length <= 65536) :
  Calls Tryz.prog 18 #[.slice a n c] w fun e w' => ∃ b m k out,e = .returned (.tuple #[.slice b m k,.int .i64 0]) /\ w'.ownsRow w.heap.size 5 1 (.slice b m k) m (vb out) /\ m = out.length /\ PkD ts out /\ Below w.heap.size w w' := by
 refine (dynamic_ok a n c ts w hg hs hn hts hl).mono ?_
 rintro e w' ⟨l,hq,v,rfl,ho,hb⟩
 obtain ⟨b,k,rfl⟩ := own_slice ho
 exact ⟨b,_,k,_,rfl,ho,rfl,⟨l,hq,rfl⟩,hb⟩
theorem encode_ok (a : Option Addr) (n c d : Nat) (bs : List Nat) (w : World) (hgl : Glob w) (hs : Sl w (.slice a n c) bs) (hcp : n <= c) (h9 : n <= 65536) (hd : 1 <= d) (hd2 : d <= 4096) :
  Calls Tryz.prog 21 #[.slice a n c,.int .i64 (d : Int)] w (EncPost w bs d) := by
 have hn := hs.len.1
 have h8 : ∀ x ∈ bs,x < 256 := by obtain ⟨_,_,_,_,_,_,_,h,_⟩ := hs; exact h
 have HFI := LH (find_any a n c d bs w hs hcp h9 hd hd2)
 have HST := LH (fun wx (hb : Below w.heap.size w wx) => stored_ok a n c bs wx (hs.later hb) hcp h9)
 have HPL := LH (fun wx (hb : Below w.heap.size w wx) => plain_tks a n c bs wx (hs.later hb) h9)
 have HFF := LH (fun aF kF cF wx (ht : Tks wx (.slice aF kF cF) (Mt.all bs d)) (hk : kF = (Mt.all bs d).length) => fix_go aF kF cF (Mt.all bs d) wx ht hk (Mt.all_toks h8 d) (by rw [Mt.all_tell h8]; omega))
 have HFD := LH (fun aF kF cF wx (hb : Below w.heap.size w wx) (ht : Tks wx (.slice aF kF cF) (Mt.all bs d)) (hk : kF = (Mt.all bs d).length) => dyn_go aF kF cF (Mt.all bs d) wx (hgl.later hb) ht hk (Mt.all_toks h8 d) (by rw [Mt.all_tell h8]; omega))
 have HBF := LH (fun aF kF cF wx (ht : Tks wx (.slice aF kF cF) (bytk bs)) (hk : kF = (bytk bs).length) => fix_go aF kF cF (bytk bs) wx ht hk (bytk_toks h8) (by rw [bytk_all]; omega))
 have HBD := LH (fun aF kF cF wx (hb : Below w.heap.size w wx) (ht : Tks wx (.slice aF kF cF) (bytk bs)) (hk : kF = (bytk bs).length) => dyn_go aF kF cF (bytk bs) wx (hgl.later hb) ht hk (bytk_toks h8) (by rw [bytk_all]; omega))
 have HNB := LH (show n = (bytk bs).length by unfold bytk; rw [List.length_map]; exact hn)
 have cF := Tryz.call15
 have cD := Tryz.call18
 clear hs hn h8 hgl
 go_enter Tryz.func21,Tryz.ntmps21
 go_wp2_with fail
 refine HFI.out.mono ?_
 clear HFI
 rintro e w1 ⟨aF,kF,cF',rfl,hkF,hT1,hb1⟩
 have HKF := LH hkF
 have HT1 := LH hT1
 have HB1 := LH hb1
 have HST1 := LH (HST.out w1 hb1)
 clear hkF hT1 hb1 HST
 go_wp2_with fail
 refine HST1.out.mono ?_
 clear HST1
 rintro e w2 ⟨v2,rfl,ho2,hb2⟩
 obtain ⟨a2,c2,rfl⟩ := own_slice ho2
 have HP2 := LH (show Pkd w w2 bs d (.slice a2 (If.stoS bs).length c2) (If.stoS bs).length (If.stoS bs) from ⟨own_weaken ho2 HB1.out.size,rfl,Or.inl rfl,Nat.le_refl _⟩)
 have HT2 := LH (HT1.out.later hb2)
 have HB2 := LH (HB1.out.trans (hb2.mono HB1.out.size))
 have HPL2 := LH (HPL.out w2 HB2.out)
 obtain ⟨n2,hn2⟩ : ∃ x,x = (If.stoS bs).length := ⟨_,rfl⟩
 rw [<- hn2] at HP2
 rw [<- hn2]
 clear ho2 hb2 HT1 HB1 HPL hn2
 go_wp2_with fail
 refine HPL2.out.mono ?_
 clear HPL2
 rintro e w3 ⟨gP,rfl,hT3,hb3⟩
 have HP3 := LH (HP2.out.later hb3)
 have HT3 := LH (HT2.out.later hb3)
 have HTP3 := LH hT3
 have HB3 := LH (HB2.out.trans (hb3.mono HB2.out.size))
 clear hT3 hb3 HP2 HT2 HB2
 go_wp2_with fail
 have hb4 := below1 w3 (.cells #[.slice aF kF cF',.slice (some ⟨gP,0,none⟩) n n] 30)
 obtain ⟨l0,l1,-,-⟩ := (Has.new w3 (.cells #[.slice aF kF cF',.slice (some ⟨gP,0,none⟩) n n] 30)).two
 have HL4 := LH (Has.new w3 (.cells #[.slice aF kF cF',.slice (some ⟨gP,0,none⟩) n n] 30))
 have HP4 := LH (HP3.out.later hb4)
 have HT4 := LH (HT3.out.later hb4)
 have HTP4 := LH (HTP3.out.later hb4)
 have HB4 := LH (HB3.out.trans (hb4.mono HB3.out.size))
 obtain ⟨w4,hw4⟩ : ∃ x,x = w3.alloc (.cells #[.slice aF kF cF',.slice (some ⟨gP,0,none⟩) n n] 30) := ⟨_,rfl⟩
 obtain ⟨L,hL⟩ : ∃ x,x = w3.heap.size := ⟨_,rfl⟩
 rw [<- hw4,<- hL] at l0 l1 HL4
 rw [<- hw4] at HP4 HT4 HTP4 HB4
 rw [<- hw4,<- hL]
 clear hb4 hw4 hL HP3 HT3 HTP3 HB3
 refine wp_loop_rounds 3 ?_
 rw [rounds_succ]
 go_wp2_with fail
 have hb5 := below1 w4 (.cells #[.func (.func 15) #[] #[],.func (.func 18) #[] #[]] 32)
 have HF5 := LH (Has.new w4 (.cells #[.func (.func 15) #[] #[],.func (.func 18) #[] #[]] 32))
 have HP5 := LH (HP4.out.later hb5)
 have HT5 := LH (HT4.out.later hb5)
 have HTP5 := LH (HTP4.out.later hb5)
 have HL5 := LH (HL4.out.later hb5)
 have HB5 := LH (HB4.out.trans (hb5.mono HB4.out.size))
 obtain ⟨f0,f1,-,-⟩ := HF5.out.two
 obtain ⟨l0,l1,-,-⟩ := HL5.out.two
 obtain ⟨w5,hw5⟩ : ∃ x,x = w4.alloc (.cells #[.func (.func 15) #[] #[],.func (.func 18) #[] #[]] 32) := ⟨_,rfl⟩
 obtain ⟨F5,hF5⟩ : ∃ x,x = w4.heap.size := ⟨_,rfl⟩
 rw [<- hw5,<- hF5] at HF5
 rw [<- hw5,<- hF5] at f0 f1
 rw [<- hw5] at HP5 HT5 HTP5 HL5 HB5 l0 l1
 rw [<- hw5,<- hF5]
 clear hw5 hF5 hb5 HP4 HT4 HTP4 HL4 HB4
 refine wp_loop_rounds 3 ?_
 have HC6 := LH (HFF.out _ _ _ w5 HT5.out HKF.out)
 rw [rounds_succ]
 go_wp2_with fail
 refine HC6.out.mono ?_
 clear HC6
 rintro e w6 ⟨b6,m6,k6,o6,rfl,ho6,hm6,hq6,hb6⟩
 have hp6 := HP5.out.later hb6
 have ho6' := own_weaken ho6 HB5.out.size
 obtain ⟨a6,n6,c6,p6,hr6,hpk6,hl6,hl6'⟩ := pkd_min hp6 ho6' hm6 (Or.inr ⟨_,Or.inl rfl,Or.inl hq6⟩)
 have hba6 := below1 w6 (.cells #[.slice a2 n2 c2,.slice b6 m6 k6] 22)
 obtain ⟨s0,s1,-,-⟩ := (Has.new w6 (.cells #[.slice a2 n2 c2,.slice b6 m6 k6] 22)).two
 have HSH := LH (shortest_ok a2 b6 n2 c2 m6 k6 w6.heap.size 2 _ _ s0 s1 hr6)
 have hbb := hb6.trans (hba6.mono hb6.size)
 have HP6 := LH (hpk6.later hba6)
 have HT6 := LH (HT5.out.later hbb)
 have HTP6 := LH (HTP5.out.later hbb)
 have HL6 := LH (HL5.out.later hbb)
 have HF6 := LH (HF5.out.later hbb)
 have HB6 := LH (HB5.out.trans (hbb.mono HB5.out.size))
 have HX6 := LH (show p6.length <= (Bs.pack (If.fixRow (Mt.all bs d))).length by have h := hl6'; rw [show o6 = _ from hq6] at h; exact h)
 obtain ⟨l0,l1,-,-⟩ := HL6.out.two
 obtain ⟨f0,f1,-,-⟩ := HF6.out.two
 have hls0 := (Has.later (show Has w6 L _ from HL5.out.later hb6) (Below.refl _ _)).two
 obtain ⟨z6,hwz⟩ : ∃ x,x = w6.alloc (.cells #[.slice a2 n2 c2,.slice b6 m6 k6] 22) := ⟨_,rfl⟩
 rw [<- hwz] at HSH HP6 HT6 HTP6 HL6 HF6 HB6 l0 l1 f0 f1
 have V6 := LH hwz
 clear hwz hls0 s0 s1 hbb hba6 hpk6 hr6 hl6 hl6' ho6 ho6' hm6 hq6 hb6 hp6 HP5 HT5 HTP5 HL5 HF5 HB5
 go_wp2_with fail
 rw [<- V6.out]
 refine HSH.out.mono ?_
 clear HSH V6
 rintro e wy ⟨rfl,rfl⟩
 go_wp2_with fail
 have HC7 := LH (HFD.out _ _ _ z6 HB6.out HT6.out HKF.out)
 rw [rounds_succ]
 go_wp2_with fail
 refine HC7.out.mono ?_
 clear HC7
 rintro e w7 ⟨b7,m7,k7,o7,rfl,ho7,hm7,hq7,hb7⟩
 have hp7 := HP6.out.later hb7
 have ho7' := own_weaken ho7 HB6.out.size
 obtain ⟨a7,n7,c7,p7,hr7,hpk7,hl7,hl7'⟩ := pkd_min hp7 ho7' hm7 (Or.inr ⟨_,Or.inl rfl,Or.inr hq7⟩)
 have hba7 := below1 w7 (.cells #[.slice a6 n6 c6,.slice b7 m7 k7] 22)
 obtain ⟨s0,s1,-,-⟩ := (Has.new w7 (.cells #[.slice a6 n6 c6,.slice b7 m7 k7] 22)).two
 have HSH := LH (shortest_ok a6 b7 n6 c6 m7 k7 w7.heap.size 2 _ _ s0 s1 hr7)
 have hbb := hb7.trans (hba7.mono hb7.size)
 have HP7 := LH (hpk7.later hba7)
 have HT7 := LH (HT6.out.later hbb)
 have HTP7 := LH (HTP6.out.later hbb)
 have HL7 := LH (HL6.out.later hbb)
 have HF7 := LH (HF6.out.later hbb)
 have HB7 := LH (HB6.out.trans (hbb.mono HB6.out.size))
 have HX7 := LH (Nat.le_trans hl7 HX6.out)
 obtain ⟨l0,l1,-,-⟩ := HL7.out.two
 obtain ⟨f0,f1,-,-⟩ := HF7.out.two
 have hls0 := (Has.later (show Has w7 L _ from HL6.out.later hb7) (Below.refl _ _)).two
 obtain ⟨z7,hwz⟩ : ∃ x,x = w7.alloc (.cells #[.slice a6 n6 c6,.slice b7 m7 k7] 22) := ⟨_,rfl⟩
 rw [<- hwz] at HSH HP7 HT7 HTP7 HL7 HF7 HB7 l0 l1 f0 f1
 have V7 := LH hwz
 clear hwz hls0 s0 s1 hbb hba7 hpk7 hr7 hl7 hl7' ho7 ho7' hm7 hq7 hb7 hp7 HP6 HT6 HTP6 HL6 HF6 HB6 HX6
 go_wp2_with fail
 rw [<- V7.out]
 refine HSH.out.mono ?_
 clear HSH V7
 rintro e wy ⟨rfl,rfl⟩
 go_wp2_with fail
 rw [rounds_succ]
 go_wp2_with fail
 rw [rounds_succ]
 go_wp2_with fail
 have hb8 := below1 z7 (.cells #[.func (.func 15) #[] #[],.func (.func 18) #[] #[]] 32)
 have HF8 := LH (Has.new z7 (.cells #[.func (.func 15) #[] #[],.func (.func 18) #[] #[]] 32))
 have HP8 := LH (HP7.out.later hb8)
 have HT8 := LH (HT7.out.later hb8)
 have HTP8 := LH (HTP7.out.later hb8)
 have HL8 := LH (HL7.out.later hb8)
 have HB8 := LH (HB7.out.trans (hb8.mono HB7.out.size))
 obtain ⟨f0,f1,-,-⟩ := HF8.out.two
 obtain ⟨l0,l1,-,-⟩ := HL8.out.two
 obtain ⟨w8,hw8⟩ : ∃ x,x = z7.alloc (.cells #[.func (.func 15) #[] #[],.func (.func 18) #[] #[]] 32) := ⟨_,rfl⟩
 obtain ⟨F8,hF8⟩ : ∃ x,x = z7.heap.size := ⟨_,rfl⟩
 rw [<- hw8,<- hF8] at HF8
 rw [<- hw8,<- hF8] at f0 f1
 rw [<- hw8] at HP8 HT8 HTP8 HL8 HB8 l0 l1
 rw [<- hw8,<- hF8]
 clear hw8 hF8 hb8 HP7 HT7 HTP7 HL7 HB7
 refine wp_loop_rounds 3 ?_
 have HC9 := LH (HBF.out _ _ _ w8 HTP8.out HNB.out)
 rw [rounds_succ]
 go_wp2_with fail
 refine HC9.out.mono ?_
 clear HC9
 rintro e w9 ⟨b9,m9,k9,o9,rfl,ho9,hm9,hq9,hb9⟩
 have hp9 := HP8.out.later hb9
 have ho9' := own_weaken ho9 HB8.out.size
 obtain ⟨a9,n9,c9,p9,hr9,hpk9,hl9,hl9'⟩ := pkd_min hp9 ho9' hm9 (Or.inr ⟨_,Or.inr rfl,Or.inl hq9⟩)
 have hba9 := below1 w9 (.cells #[.slice a7 n7 c7,.slice b9 m9 k9] 22)
 obtain ⟨s0,s1,-,-⟩ := (Has.new w9 (.cells #[.slice a7 n7 c7,.slice b9 m9 k9] 22)).two
 have HSH := LH (shortest_ok a7 b9 n7 c7 m9 k9 w9.heap.size 2 _ _ s0 s1 hr9)
 have hbb := hb9.trans (hba9.mono hb9.size)
 have HP9 := LH (hpk9.later hba9)
 have HT9 := LH (HT8.out.later hbb)
 have HTP9 := LH (HTP8.out.later hbb)
 have HL9 := LH (HL8.out.later hbb)
 have HF9 := LH (HF8.out.later hbb)
 have HB9 := LH (HB8.out.trans (hbb.mono HB8.out.size))
 have HX9 := LH (Nat.le_trans hl9 HX7.out)
 obtain ⟨l0,l1,-,-⟩ := HL9.out.two
 obtain ⟨f0,f1,-,-⟩ := HF9.out.two
 have hls0 := (Has.later (show Has w9 L _ from HL8.out.later hb9) (Below.refl _ _)).two
 obtain ⟨z9,hwz⟩ : ∃ x,x = w9.alloc (.cells #[.slice a7 n7 c7,.slice b9 m9 k9] 22) := ⟨_,rfl⟩
 rw [<- hwz] at HSH HP9 HT9 HTP9 HL9 HF9 HB9 l0 l1 f0 f1
 have V9 := LH hwz
 clear hwz hls0 s0 s1 hbb hba9 hpk9 hr9 hl9 hl9' ho9 ho9' hm9 hq9 hb9 hp9 HP8 HT8 HTP8 HL8 HF8 HB8 HX7
 go_wp2_with fail
 rw [<- V9.out]
 refine HSH.out.mono ?_
 clear HSH V9
 rintro e wy ⟨rfl,rfl⟩
 go_wp2_with fail
 have HC10 := LH (HBD.out _ _ _ z9 HB9.out HTP9.out HNB.out)
 rw [rounds_succ]
 go_wp2_with fail
 refine HC10.out.mono ?_
 clear HC10
 rintro e w10 ⟨b10,m10,k10,o10,rfl,ho10,hm10,hq10,hb10⟩
 have hp10 := HP9.out.later hb10
 have ho10' := own_weaken ho10 HB9.out.size
 obtain ⟨a10,n10,c10,p10,hr10,hpk10,hl10,hl10'⟩ := pkd_min hp10 ho10' hm10 (Or.inr ⟨_,Or.inr rfl,Or.inr hq10⟩)
 have hba10 := below1 w10 (.cells #[.slice a9 n9 c9,.slice b10 m10 k10] 22)
 obtain ⟨s0,s1,-,-⟩ := (Has.new w10 (.cells #[.slice a9 n9 c9,.slice b10 m10 k10] 22)).two
 have HSH := LH (shortest_ok a9 b10 n9 c9 m10 k10 w10.heap.size 2 _ _ s0 s1 hr10)
 have hbb := hb10.trans (hba10.mono hb10.size)
 have HP10 := LH (hpk10.later hba10)
 have HT10 := LH (HT9.out.later hbb)
 have HTP10 := LH (HTP9.out.later hbb)
 have HL10 := LH (HL9.out.later hbb)
 have HF10 := LH (HF9.out.later hbb)
 have HB10 := LH (HB9.out.trans (hbb.mono HB9.out.size))
 have HX10 := LH (Nat.le_trans hl10 HX9.out)
 obtain ⟨l0,l1,-,-⟩ := HL10.out.two
 obtain ⟨f0,f1,-,-⟩ := HF10.out.two
 have hls0 := (Has.later (show Has w10 L _ from HL9.out.later hb10) (Below.refl _ _)).two
 obtain ⟨z10,hwz⟩ : ∃ x,x = w10.alloc (.cells #[.slice a9 n9 c9,.slice b10 m10 k10] 22) := ⟨_,rfl⟩
 rw [<- hwz] at HSH HP10 HT10 HTP10 HL10 HF10 HB10 l0 l1 f0 f1
 have V10 := LH hwz
 clear hwz hls0 s0 s1 hbb hba10 hpk10 hr10 hl10 hl10' ho10 ho10' hm10 hq10 hb10 hp10 HP9 HT9 HTP9 HL9 HF9 HB9 HX9
 go_wp2_with fail
 rw [<- V10.out]
 refine HSH.out.mono ?_
 clear HSH V10
 rintro e wy ⟨rfl,rfl⟩
 go_wp2_with fail
 rw [rounds_succ]
 go_wp2_with fail
 rw [rounds_succ]
 go_wp2_with fail
 refine bodyPost_ret (v := .tuple #[.slice a10 n10 c10,.int .i64 0]) (by simp [results,Tryz.results21,go_sem]) rfl ⟨a10,n10,c10,p10,rfl,HP10.out,HX10.out,HB10.out⟩
end
end Go.Proofs.YtmgpcbjciioiaaaGreatDoor
