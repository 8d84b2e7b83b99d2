import Derived.Test.YtckbhciehmokdaaGreatDoorDwh
import Derived.Test.YtckbhciehmokdaaGreatDoorCcap
import Derived.Test.YtckbhciehmokdaaGreatDoorIstow
import Derived.Test.YtckbhciehmokdaaGreatDoorIex
import Derived.Test.YtckbhciehmokdaaGreatDoorSrall
namespace Go.Proofs.YtckbhciehmokdaaGreatDoor
set_option maxRecDepth 100000
set_option maxHeartbeats 8000000
section
open Go.RowKit
theorem areLen1_no (x : Nat) (h : x <= 15) (w : World) : Calls Tryz.prog 115 #[.int .i64 (x : Int)] w fun e w' => e = .returned (.bool false) /\ w = w' := by
 have h1 : decide ((x : Int) < 0) = false := decide_eq_false (by omega)
 have h3 : decide ((15 : Int) < (x : Int)) = false := decide_eq_false (by omega)
 have h4 : ¬ 15 < x := by omega
 clear h
 go_enter Tryz.func115,Tryz.ntmps115
 go_wp2
 go_ret
 exact ⟨rfl,rfl⟩
theorem index_none (b off cap : Nat) (ls : List Nat) (w : World) (hn : Nat9 w b off ls) (h15 : ∀ x ∈ ls,x <= 15) (hl : ls.length <= 1000) :
  Calls Tryz.prog 156 #[.slice (some ⟨b,off,none⟩) ls.length cap,.func (.func 115) #[] #[]] w fun e w' => e = .returned (.int .i64 (-1)) /\ w = w' := by
 have HN := LH hn
 have H15 := LH h15
 obtain ⟨n,hnl⟩ : ∃ n,n = ls.length := ⟨_,rfl⟩
 have HL := LH hnl
 rw [<- hnl] at hl ⊢
 clear hn h15 hnl
 go_enter Tryz.func156,Tryz.ntmps156
 go_wp2
 go_loop [8] (fun s8 => ∃ k : Nat,k <= n /\ s8 = .int .i64 k) (fun s => n - (intOf s).toNat)
 case atStart => exact ⟨0,Nat.zero_le _,rfl⟩
 case round =>
  obtain ⟨k,hk,rfl⟩ := hrel
  by_cases hlt : k < n
  ·have hck := HN.out.2 k (by rw [<- HL.out]; exact hlt)
   have hx15 : ls[k]?.getD 0 <= 15 := by
    rw [List.getElem?_eq_getElem (by rw [<- HL.out]; exact hlt)]
    exact H15.out _ (List.getElem_mem _)
   obtain ⟨x,hx⟩ : ∃ x,x = ls[k]?.getD 0 := ⟨_,rfl⟩
   rw [<- hx] at hck hx15
   clear hx
   go_wp2_with (go_at_call 115; refine (areLen1_no x hx15 _).mono ?_; rintro e w' ⟨rfl,rfl⟩)
   go_round
   case rel => exact ⟨k + 1,by omega,by go_num⟩
   case measure => simp [intOf]; omega
  ·obtain rfl : k = n := by omega
   go_wp2
   go_ret
   exact ⟨rfl,rfl⟩
theorem contains_none (b off cap : Nat) (ls : List Nat) (w : World) (hn : Nat9 w b off ls) (h15 : ∀ x ∈ ls,x <= 15) (hl : ls.length <= 1000) :
  Calls Tryz.prog 114 #[.slice (some ⟨b,off,none⟩) ls.length cap,.func (.func 115) #[] #[]] w fun e w' => e = .returned (.bool false) /\ w = w' := by
 have H := LH (index_none b off cap ls w hn h15 hl)
 clear hn h15 hl
 go_enter Tryz.func114,Tryz.ntmps114
 go_wp2_with fail
 refine H.out.mono ?_
 rintro e w1 ⟨rfl,rfl⟩
 go_wp2_with fail
 go_ret
 exact ⟨rfl,rfl⟩
theorem areLen_yes (b off cap least most : Nat) (ls : List Nat) (w : World) (hn : Nat9 w b off ls) (h15 : ∀ x ∈ ls,x <= 15) (h1 : least <= ls.length) (h2 : ls.length <= most) (hm : most <= 1000) :
  Calls Tryz.prog 76 #[.slice (some ⟨b,off,none⟩) ls.length cap,.int .i64 (least : Int),.int .i64 (most : Int)] w fun e w' => e = .returned (.bool true) /\ w = w' := by
 have H := LH (contains_none b off cap ls w hn h15 (by omega))
 obtain ⟨n,hnl⟩ : ∃ n,n = ls.length := ⟨_,rfl⟩
 rw [<- hnl] at H h1 h2 ⊢
 have d1 : decide ((n : Int) < (least : Int)) = false := decide_eq_false (by omega)
 have d2 : decide ((most : Int) < (n : Int)) = false := decide_eq_false (by omega)
 have d1' : ¬ n < least := by omega
 have d2' : ¬ most < n := by omega
 clear hn h15 hnl h1 h2
 go_enter Tryz.func76,Tryz.ntmps76
 go_wp2_with fail
 refine H.out.mono ?_
 rintro e w1 ⟨rfl,rfl⟩
 go_wp2_with fail
 go_ret
 exact ⟨rfl,rfl⟩
def HdV (B : Nat) (w : World) (V : Nat) (L D : List Nat) : Prop := ∃ C c g m,B <= g /\ If.HV L D C c (rnL (L ++ D)) /\ Has w V (.cells #[.slice (some ⟨g,0,none⟩) m m,.int .i64 ((If.headRow L D C c (rnL (L ++ D))).length : Int)] 64) /\ Sl w (.slice (some ⟨g,0,none⟩) m m) (Bs.pack (If.headRow L D C c (rnL (L ++ D))))
theorem hput1_ok (P0 P1 P2 V : Nat) (L D : List Nat) (bL oL kL bD oD kD : Nat) (w : World) (hgl : Glob w)
  (h0 : Has w P0 (.cells #[.slice (some ⟨bL,oL,none⟩) L.length kL] 57)) (h1 : Has w P1 (.cells #[.slice (some ⟨bD,oD,none⟩) D.length kD] 57))
  (h2 : Has w P2 (.cells #[.slice none 0 0,.int .i64 0] 64)) (hV : Has w V (.cells #[.slice none 0 0,.int .i64 0] 64))
  (hL : Nat9 w bL oL L) (hD : Nat9 w bD oD D) (hL1 : 257 <= L.length) (hL2 : L.length <= 286) (hD1 : 1 <= D.length) (hD2 : D.length <= 30) (h15 : ∀ x ∈ L ++ D,x <= 15) :
  Calls Tryz.prog 78 #[.pointer (some ⟨P0,0,none⟩),.pointer (some ⟨P1,0,none⟩),.pointer (some ⟨P2,0,none⟩),.pointer (some ⟨V,0,none⟩)] w fun e w' => e = .returned (.tuple #[]) /\ HdV w.heap.size w' V L D /\ Only V w w' := by
 obtain ⟨W1,hW1⟩ : ∃ W,W = w.alloc (.cells #[.slice none 0 0,.int .i64 0] 116) := ⟨_,rfl⟩
 have hb1 : Below w.heap.size w W1 := by rw [hW1]; exact below1 w _
 have hx1 : Has W1 w.heap.size (.cells #[.slice none 0 0,.int .i64 0] 116) := by rw [hW1]; exact Has.new w _
 have hwr : Wr W1 w.heap.size [] := ⟨none,0,0,hx1,Sl.nil _⟩
 have CH := LH (wheader_ok w.heap.size L D bL oL kL bD oD kD W1 hwr (hgl.later hb1) (by have := hgl.lt; omega) (hL.later hb1) (hD.later hb1) hL1 hL2 hD1 hD2 h15)
 obtain ⟨nl,hnl⟩ : ∃ x,x = L.length := ⟨_,rfl⟩
 obtain ⟨nd,hnd⟩ : ∃ x,x = D.length := ⟨_,rfl⟩
 rw [<- hnl] at h0
 rw [<- hnd] at h1
 rw [<- hnl,<- hnd] at CH
 obtain ⟨c0,-⟩ := (h0.later hb1).one
 obtain ⟨c1,-⟩ := (h1.later hb1).one
 rw [hW1] at c0 c1
 have V1 := LH hW1
 have HB1 := LH hb1
 have H2 := LH h2
 have HV := LH hV
 have H15 := LH h15
 clear hgl h0 h1 h2 hV hL hD hL1 hL2 hD1 hD2 h15 hW1 hb1 hx1 hwr hnl hnd
 go_enter Tryz.func78,Tryz.ntmps78
 go_wp2_with fail
 rw [<- V1.out]
 refine CH.out.mono ?_
 clear CH V1 c0 c1
 rintro e w2 ⟨rfl,C,c,hHV,hw2,ho2⟩
 obtain ⟨ra,rm,rc,hr,hsl⟩ := hw2
 obtain ⟨row,hrow⟩ : ∃ x,x = If.headRow L D C c (rnL (L ++ D)) := ⟨_,rfl⟩
 have hrl : row.length <= 100000 := by
  rw [hrow,If.headRow_length]
  have q1 := opsRow_le C (fun i => by have := hHV.c8 i; omega) (rnL (L ++ D))
  have q2 := Dp.rnL_few (L ++ D) H15.out
  have q3 := hHV.l2
  have q4 := hHV.d2
  have q5 := hHV.c2
  rw [List.length_append] at q2
  omega
 rw [<- hrow] at hr hsl
 have HHV := LH hHV
 have HROW := LH hrow
 have hP2 : Has w2 P2 (.cells #[.slice none 0 0,.int .i64 0] 64) := (H2.out.later HB1.out).only ho2 (by have := H2.out.lt; omega)
 have hVV : Has w2 V (.cells #[.slice none 0 0,.int .i64 0] 64) := (HV.out.later HB1.out).only ho2 (by have := HV.out.lt; omega)
 have CJ := LH (join_ok (.slice none 0 0) (.slice ra rm rc) [] row 0 row.length w2 (Sl.nil _) hsl rfl rfl (by decide) (by omega))
 rw [List.nil_append] at CJ
 obtain ⟨p0,p1,-,-⟩ := hP2.two
 obtain ⟨r0,r1,-,-⟩ := hr.two
 have HV2 := LH hVV
 have HRL := LH hrl
 have HB2 : Hid (Below w.heap.size w w2) := HB1.out.trans ⟨ho2.os,ho2.tape,ho2.output,ho2.size,fun k hk => ho2.block k (by have := HB1.out.size; omega) (by omega)⟩
 have HVlt := LH HV.out.lt
 obtain ⟨nr,hnr⟩ : ∃ x,x = row.length := ⟨_,rfl⟩
 rw [<- hnr] at CJ r1
 have HNR := LH hnr
 clear hHV ho2 hr hsl hrow hrl hP2 hVV H2 HV HB1 hnr
 go_wp2_with fail
 refine (show Calls Tryz.prog 58 #[.agg #[.slice none 0 0,.int .i64 0],_] _ _ from CJ.out).mono ?_
 clear CJ p0 p1 r0 r1
 rintro e w3 ⟨g,mm,rfl,hm,hg,hh,hb3⟩
 have HM := LH hm
 have HG := LH hg
 have HH := LH hh
 have HB3 := LH (HB2.out.trans (hb3.mono HB2.out.size))
 have HV3 := LH (HV2.out.later hb3)
 have HGW := LH (show w.heap.size <= g by have := HG.out; have := HB2.out.size; omega)
 have HG2 := LH (show V < g by have := HVlt.out; have := HB2.out.size; omega)
 clear hm hg hh hb3 HV2 HB2
 go_wp2_with fail
 refine (needBits_ok _ _ _ _ _).mono ?_
 rintro e w4 ⟨rfl,hb4⟩
 have HV4 := LH (HV3.out.later hb4)
 have HH4 := LH (HH.out.later hb4)
 have HB4 := LH (HB3.out.trans (hb4.mono HB3.out.size))
 obtain ⟨v0,v1,y0,y1⟩ := HV4.out.two
 obtain ⟨nr2,hnr2⟩ : ∃ x,x = row.length := ⟨_,rfl⟩
 rw [<- hnr2]
 have HNR2 := LH hnr2
 clear hb4 HV3 HH HB3 hnr2
 go_wp2_with fail
 go_end0
 refine ⟨rfl,⟨C,c,g,mm,HGW.out,HHV.out,?_,?_⟩,only_set2 (Only.of_below (R := V) HB4.out) _ _⟩
 ·rw [<- HROW.out,<- HNR2.out]
  have h := (HV4.out.setSelf (i := 0) (.slice (some ⟨g,0,none⟩) mm mm)).setSelf (i := 1) (.int .i64 (nr2 : Int))
  simpa using h
 ·rw [<- HROW.out]
  exact Sl.has ((HH4.out.set (a := ⟨V,0,none⟩) (by have := HG2.out; show g ≠ V; omega) _).set (a := ⟨V,1,none⟩) (by have := HG2.out; show g ≠ V; omega) _) (Bs.pack_lt _) (by rw [Bs.pack_length]; have := HRL.out; omega) _ _ (by rw [Bs.pack_length,HM.out])
theorem sl_set9 {w : World} {g m c k : Nat} {bs : List Nat} (h : Sl w (.slice (some ⟨g,0,none⟩) m c) bs) (hne : g ≠ k) (i : Nat) (v : Value) : Sl (w.setCell ⟨k,i,none⟩ v) (.slice (some ⟨g,0,none⟩) m c) bs :=
 sl_block h fun g' off e _ => by
  injection e with e
  injection e with e _ _
  subst e
  exact Below.heap_setCell _ _ _ _ hne
def HPut (w : World) (L D : List Nat) (e : Ending) (w' : World) : Prop := ∃ C c g m,If.HV L D C c (rnL (L ++ D)) /\ e = .returned (.tuple #[.agg #[.slice (some ⟨g,0,none⟩) m m,.int .i64 ((If.headRow L D C c (rnL (L ++ D))).length : Int)],.int .i64 0]) /\ Sl w' (.slice (some ⟨g,0,none⟩) m m) (Bs.pack (If.headRow L D C c (rnL (L ++ D)))) /\ Below w.heap.size w w'
theorem put_boxes (w : World) (O0 O1 O2 O3 : Obj) : ∃ W,W = (((w.alloc O0).alloc O1).alloc O2).alloc O3 /\ Below w.heap.size w W /\ W.heap.size = w.heap.size + 4 /\ Has W w.heap.size O0 /\ Has W (w.heap.size + 1) O1 /\ Has W (w.heap.size + 2) O2 /\ Has W (w.heap.size + 3) O3 := by
 have b1 := below1 w O0
 have b2 := below1 (w.alloc O0) O1
 have b3 := below1 ((w.alloc O0).alloc O1) O2
 have b4 := below1 (((w.alloc O0).alloc O1).alloc O2) O3
 have z1 : (w.alloc O0).heap.size = w.heap.size + 1 := by simp
 have z2 : ((w.alloc O0).alloc O1).heap.size = w.heap.size + 2 := by simp
 have z3 : (((w.alloc O0).alloc O1).alloc O2).heap.size = w.heap.size + 3 := by simp
 have n1 := Has.new (w.alloc O0) O1
 have n2 := Has.new ((w.alloc O0).alloc O1) O2
 have n3 := Has.new (((w.alloc O0).alloc O1).alloc O2) O3
 rw [z1] at n1
 rw [z2] at n2
 rw [z3] at n3
 refine ⟨_,rfl,b1.trans ((b2.mono (by omega)).trans ((b3.mono (by omega)).trans (b4.mono (by omega)))),by simp,(((Has.new w O0).later b2).later b3).later b4,(n1.later b3).later b4,n2.later b4,n3⟩
theorem header_put (L D : List Nat) (bL oL kL bD oD kD : Nat) (w : World) (hgl : Glob w) (hL : Nat9 w bL oL L) (hD : Nat9 w bD oD D) (hL1 : 257 <= L.length) (hL2 : L.length <= 286) (hD1 : 1 <= D.length) (hD2 : D.length <= 30) (h15 : ∀ x ∈ L ++ D,x <= 15) :
  Calls Tryz.prog 43 #[.agg #[.slice none 0 0,.int .i64 0],.slice (some ⟨bL,oL,none⟩) L.length kL,.slice (some ⟨bD,oD,none⟩) D.length kD] w (HPut w L D) := by
 have hmf : ∀ (fn : Fn) (first cap : Array Value) (w : World),(Instr.makeFunc fn first cap).run Tryz.prog w = .ok (.func fn first cap) w := fun _ _ _ _ => rfl
 obtain ⟨W0,hW0,hb0,hs0,hx0,hx1,hx2,hx3⟩ := put_boxes w (.cells #[.slice none 0 0,.int .i64 0] 64) (.cells #[.slice (some ⟨bL,oL,none⟩) L.length kL] 57) (.cells #[.slice (some ⟨bD,oD,none⟩) D.length kD] 57) (.cells #[.slice none 0 0,.int .i64 0] 64)
 have CK := LH (check_ok (.slice none 0 0) [] 0 W0 (Sl.nil _) (by decide) (Bs.pack_right []))
 have V0 := LH hW0
 have HB0 := LH hb0
 have HX0 := LH hx0
 have HX1 := LH hx1
 have HX2 := LH hx2
 have HX3 := LH hx3
 have HS0 := LH hs0
 have HA1 := LH (fun W (hb : Below w.heap.size w W) => areLen_yes bL oL kL 257 286 L W (hL.later hb) (fun x hx => h15 x (List.mem_append_left _ hx)) hL1 hL2 (by decide))
 have HA2 := LH (fun W (hb : Below w.heap.size w W) => areLen_yes bD oD kD 1 30 D W (hD.later hb) (fun x hx => h15 x (List.mem_append_right _ hx)) hD1 hD2 (by decide))
 have HP1 := LH (fun (V : Nat) W (hb : Below w.heap.size w W) (q0 : Has W (w.heap.size + 1) (.cells #[.slice (some ⟨bL,oL,none⟩) L.length kL] 57)) (q1 : Has W (w.heap.size + 2) (.cells #[.slice (some ⟨bD,oD,none⟩) D.length kD] 57)) (q2 : Has W w.heap.size (.cells #[.slice none 0 0,.int .i64 0] 64)) (qV : Has W V (.cells #[.slice none 0 0,.int .i64 0] 64)) => hput1_ok (w.heap.size + 1) (w.heap.size + 2) w.heap.size V L D bL oL kL bD oD kD W (hgl.later hb) q0 q1 q2 qV (hL.later hb) (hD.later hb) hL1 hL2 hD1 hD2 h15)
 obtain ⟨nl,hnl⟩ : ∃ x,x = L.length := ⟨_,rfl⟩
 obtain ⟨nd,hnd⟩ : ∃ x,x = D.length := ⟨_,rfl⟩
 rw [<- hnl] at HX1 HA1 HP1 hW0 V0 ⊢
 rw [<- hnd] at HX2 HA2 HP1 hW0 V0 ⊢
 clear hgl hL hD hL1 hL2 hD1 hD2 h15 hW0 hb0 hs0 hx0 hx1 hx2 hx3 hnl hnd
 go_enter Tryz.func43,Tryz.ntmps43
 go_wp2_with fail
 rw [<- V0.out]
 refine (show Calls Tryz.prog 75 #[.agg #[.slice none 0 0,.int .i64 0]] _ _ from CK.out).mono ?_
 clear CK V0
 rintro e w1 ⟨rfl,hb1⟩
 have HB1 := LH (HB0.out.trans (hb1.mono HB0.out.size))
 have Y0 := LH (HX0.out.later hb1)
 have Y1 := LH (HX1.out.later hb1)
 have Y2 := LH (HX2.out.later hb1)
 have Y3 := LH (HX3.out.later hb1)
 have CA1 := LH (HA1.out w1 HB1.out)
 have CA2 := LH (HA2.out w1 HB1.out)
 have HS1 : Hid (w.heap.size + 4 <= w1.heap.size) := by have := hb1.size; have := HS0.out; show _ <= _; omega
 obtain ⟨y1,-⟩ := Y1.out.one
 obtain ⟨y2,-⟩ := Y2.out.one
 clear hb1 HX0 HX1 HX2 HX3 HA1 HA2 HB0 HS0
 go_wp2_with fail
 refine (show Calls Tryz.prog 76 #[_,.int .i64 257,.int .i64 286] _ _ from CA1.out).mono ?_
 clear CA1
 rintro e w1x ⟨rfl,rfl⟩
 go_wp2_with fail
 refine (show Calls Tryz.prog 76 #[_,.int .i64 1,.int .i64 30] _ _ from CA2.out).mono ?_
 clear CA2
 rintro e w1x ⟨rfl,rfl⟩
 obtain ⟨W2,hW2⟩ : ∃ W,W = w1.alloc (.cells #[.slice none 0 0,.int .i64 0] 64) := ⟨_,rfl⟩
 have hb2 : Below w1.heap.size w1 W2 := by rw [hW2]; exact below1 w1 _
 have hv2 : Has W2 w1.heap.size (.cells #[.slice none 0 0,.int .i64 0] 64) := by rw [hW2]; exact Has.new w1 _
 have hb3 := below1 W2 (.cells #[.int .i64 0] 23)
 have hbw : Below w.heap.size w (W2.alloc (.cells #[.int .i64 0] 23)) := HB1.out.trans ((hb2.trans (hb3.mono hb2.size)).mono HB1.out.size)
 have hcall := HP1.out w1.heap.size (W2.alloc (.cells #[.int .i64 0] 23)) hbw ((Y1.out.later hb2).later hb3) ((Y2.out.later hb2).later hb3) ((Y0.out.later hb2).later hb3) (hv2.later hb3)
 have hEr : Has (W2.alloc (.cells #[.int .i64 0] 23)) W2.heap.size (.cells #[.int .i64 0] 23 (0,0)) := Has.new W2 _
 have hs2 : W2.heap.size = w1.heap.size + 1 := by rw [hW2]; simp
 have CT := LH (caught_ok 78 #[.pointer (some ⟨w.heap.size + 1,0,none⟩),.pointer (some ⟨w.heap.size + 2,0,none⟩),.pointer (some ⟨w.heap.size,0,none⟩),.pointer (some ⟨w1.heap.size,0,none⟩)] W2 (fun W' => HdV (W2.alloc (.cells #[.int .i64 0] 23)).heap.size W' w1.heap.size L D /\ Only w1.heap.size (W2.alloc (.cells #[.int .i64 0] 23)) W') (fun _ _ => rfl) (hcall.mono fun e w' hp => ⟨hp.1,hEr.only hp.2.2 (by omega),hp.2.1,hp.2.2⟩))
 have V2 := LH hW2
 have HW2 := LH (And.intro hs2 hb2)
 have HBW := LH hbw
 have Z3 := LH ((Y3.out.later hb2).later hb3)
 clear hW2 hb2 hv2 hb3 hbw hcall hEr hs2 HP1 y1 y2 Y0 Y1 Y2 Y3
 go_wp2_with fail
 rw [<- V2.out]
 refine CT.out.mono ?_
 clear CT V2
 rintro e w3 ⟨rfl,w4,⟨hdv,ho4⟩,rfl⟩
 obtain ⟨C,c,g,m,hgB,hHV,hvb,hsl⟩ := hdv
 have hz2 := HW2.out.1
 have hs1 := HS1.out
 have hz4 := ho4.size
 have hsz3 : (W2.alloc (.cells #[.int .i64 0] 23)).heap.size = W2.heap.size + 1 := by simp
 obtain ⟨row,hrow⟩ : ∃ x,x = If.headRow L D C c (rnL (L ++ D)) := ⟨_,rfl⟩
 rw [<- hrow] at hvb hsl
 have z4 := (Z3.out.only ho4 (by omega))
 obtain ⟨w5,hw5⟩ : ∃ W,W = w4.setCell ⟨W2.heap.size,0,none⟩ (.int .i64 0) := ⟨_,rfl⟩
 have hvb5 : Has w5 w1.heap.size (.cells #[.slice (some ⟨g,0,none⟩) m m,.int .i64 (row.length : Int)] 64) := by rw [hw5]; exact hvb.set (a := ⟨W2.heap.size,0,none⟩) (by show w1.heap.size ≠ W2.heap.size; omega) _
 have hz5 : Has w5 (w.heap.size + 3) (.cells #[.slice none 0 0,.int .i64 0] 64) := by rw [hw5]; exact z4.set (a := ⟨W2.heap.size,0,none⟩) (by show w.heap.size + 3 ≠ W2.heap.size; omega) _
 have hsl5 : Sl w5 (.slice (some ⟨g,0,none⟩) m m) (Bs.pack row) := by rw [hw5]; exact sl_set9 hsl (by omega) 0 _
 have hbf : Below w.heap.size w w5 := by
  have h4 : Below w.heap.size w w4 := HBW.out.trans ⟨ho4.os,ho4.tape,ho4.output,ho4.size,fun k hk => ho4.block k (by have := HBW.out.size; omega) (by omega)⟩
  rw [hw5]
  exact h4.setCell (p := ⟨W2.heap.size,0,none⟩) (by show w.heap.size <= W2.heap.size; omega) _
 have V5 := LH hw5
 have HROW := LH hrow
 have HHV := LH hHV
 obtain ⟨nr,hnr⟩ : ∃ x,x = row.length := ⟨_,rfl⟩
 rw [<- hnr] at hvb5
 have HNR := LH hnr
 obtain ⟨v0,v1,-,-⟩ := hvb5.two
 obtain ⟨z0,z1,z2,z3⟩ := hz5.two
 have hfin : Has ((w5.setCell ⟨w.heap.size + 3,0,none⟩ (.slice (some ⟨g,0,none⟩) m m)).setCell ⟨w.heap.size + 3,1,none⟩ (.int .i64 (nr : Int))) (w.heap.size + 3) (.cells #[.slice (some ⟨g,0,none⟩) m m,.int .i64 (nr : Int)] 64) := by
  have h := (hz5.setSelf (i := 0) (.slice (some ⟨g,0,none⟩) m m)).setSelf (i := 1) (.int .i64 (nr : Int))
  simpa using h
 obtain ⟨e0,e1,-,-⟩ := hfin.two
 have HSF := LH (sl_set9 (sl_set9 hsl5 (show g ≠ w.heap.size + 3 by omega) 0 (.slice (some ⟨g,0,none⟩) m m)) (show g ≠ w.heap.size + 3 by omega) 1 (.int .i64 (nr : Int)))
 have HBF := LH (set2_below hbf (w.heap.size + 3) (by omega) (.slice (some ⟨g,0,none⟩) m m) (.int .i64 (nr : Int)))
 clear hgB hHV hvb hsl hz2 hs1 hz4 hsz3 hrow z4 hw5 hvb5 hz5 hsl5 hbf hnr hfin ho4 Z3 HBW HW2 HS1
 rw [<- V5.out]
 clear V5
 go_wp2_with fail
 refine bodyPost_ret (v := .tuple #[.agg #[.slice (some ⟨g,0,none⟩) m m,.int .i64 (nr : Int)],.int .i64 0]) (by simp [results,Tryz.results43,go_sem,e0,e1]) rfl ⟨C,c,g,m,HHV.out,?_,?_,HBF.out⟩
 ·rw [<- HROW.out,<- HNR.out]
 ·rw [<- HROW.out]; exact HSF.out
end
section
open Go.RowKit
theorem stream_row (F : FuncId) (caps : Array Value) (hcall : ∀ (args : Array Value) (wx : World),(callFunc F args).run Tryz.prog wx = .ok (.enter F args) wx) (w : World) (Q : List Bool -> Prop)
  (hw : Calls Tryz.prog F (#[LF w.heap.size] ++ caps) (boxes w) fun e w' => ∃ l,Q l /\ LayPost w (boxes w) w.heap.size (.slice none 0 0) l e w') :
  Calls Tryz.prog 25 #[.func (.func F) #[] caps] w fun e w' => ∃ l,Q l /\ StrPost w (Bs.pack l) e w' := by
 have HW := LH hw
 clear hw
 go_enter Tryz.func25,Tryz.ntmps25
 go_wp2_with fail
 refine (show Calls Tryz.prog F (#[LF w.heap.size] ++ caps) (boxes w) _ from HW.out).mono ?_
 clear HW
 rintro e w3 ⟨l,hq,rfl,tv,hl,_⟩
 have HQ := LH hq
 clear hq
 have hb := hl.b
 obtain ⟨ra,rm,rc,hr,hrs,hrc⟩ := hl.r
 obtain ⟨ht,hto⟩ := hl.t
 obtain ⟨d0,_⟩ := (show Has w3 (w.heap.size + 1 + 1) _ from hl.f).one
 obtain ⟨c0,_,_,_⟩ := hr.two
 obtain ⟨t0,_⟩ := ht.one
 have hn := hl.n
 have hsz3 : w.heap.size <= w3.heap.size := by have := hl.f.lt; omega
 have hrl := hrs.len.1
 rw [Bs.pack_length,Bs.rest_length] at hrl
 obtain ⟨v',w4,hrun,hown,hg⟩ := app_any w3 w.heap.size (l.length / 8) tv _ hto ra rm rc _ 22 hrs (by omega) (by omega) hsz3
 have e1 : l.length / 8 + rm = (Bs.pack l).length := by rw [Bs.pack_length]; omega
 rw [Bs.whole_rest,e1] at hown
 obtain ⟨av,cv,rfl⟩ := own_slice hown
 obtain ⟨at',ct,rfl⟩ := own_slice hto
 have HRUN := LH hrun
 have HOWN := LH hown
 have HB := LH (hb.grown hg hsz3 (fun q hq => (World.ownsRow.lt hto q hq).1))
 obtain ⟨pl,hpl⟩ : ∃ pl,pl = (Bs.pack l).length := ⟨_,rfl⟩
 rw [<- hpl] at HOWN HRUN
 have HPL := LH hpl
 clear hpl
 clear hl hb hr hrs hrc ht hto hn hrl hrun hown hg e1
 go_wp2_with (at_builtin; (refine wpList_append_is rfl (.tmp 13) (.tmp 15) 22 rfl _ _ _ _ rfl rfl HRUN.out ?_))
 refine bodyPost_ret (v := .tuple #[.slice av pl cv,.int .i64 0]) (by simp [results,Tryz.results25,go_sem]) rfl ⟨l,HQ.out,_,rfl,by rw [<- HPL.out]; exact HOWN.out,HB.out⟩
def DynQ (L D : List Nat) (ts : List If.Tk) (l : List Bool) : Prop := ∃ C c,If.HV L D C c (rnL (L ++ D)) /\ l = If.dynRow L D C c (rnL (L ++ D)) ts
theorem head_few {L D C : List Nat} {c : Nat} (h : If.HV L D C c (rnL (L ++ D))) (h15 : ∀ x ∈ L ++ D,x <= 15) : (If.headRow L D C c (rnL (L ++ D))).length <= 100000 := by
 rw [If.headRow_length]
 have q1 := opsRow_le C (fun i => by have := h.c8 i; omega) (rnL (L ++ D))
 have q2 := Dp.rnL_few (L ++ D) h15
 have q3 := h.l2
 have q4 := h.d2
 have q5 := h.c2
 rw [List.length_append] at q2
 omega
theorem nat_ln {w : World} {g : Nat} {ls : List Nat} (h : Nat9 w g 0 ls) : ∀ i,i < ls.length -> w.cell? ⟨g,i,none⟩ = some (.int .i64 ((Hf.ln ls i : Nat) : Int)) := fun i hi => by
 have := h.2 i hi
 rw [Nat.zero_add] at this
 exact this
theorem ln_nat {w : World} {g : Nat} {ls : List Nat} (hg : g < w.heap.size) (h : ∀ i,i < ls.length -> w.cell? ⟨g,i,none⟩ = some (.int .i64 ((Hf.ln ls i : Nat) : Int))) : Nat9 w g 0 ls := ⟨hg,fun i hi => by
 rw [Nat.zero_add]
 exact h i hi⟩
theorem dyn1_lay (w : World) (P PL PD : Nat) (a : Option Addr) (n c gL kL gD kD : Nat) (L D : List Nat) (ts : List If.Tk) (hgl : Glob w)
  (hp : Has w P (.cells #[.slice a n c] 30 (0,0))) (hpL : Has w PL (.cells #[.slice (some ⟨gL,0,none⟩) L.length kL] 57 (0,0))) (hpD : Has w PD (.cells #[.slice (some ⟨gD,0,none⟩) D.length kD] 57 (0,0)))
  (hs : Tks w (.slice a n c) ts) (hn : n = ts.length) (hn9 : n <= 65536) (hv : ∀ t ∈ ts,If.Byt t ∨ If.Cop t) (hL : Nat9 w gL 0 L) (hD : Nat9 w gD 0 D)
  (hL1 : 257 <= L.length) (hL2 : L.length <= 286) (hD1 : 1 <= D.length) (hD2 : D.length <= 30) (h15 : ∀ x ∈ L ++ D,x <= 15) (tL : Fit (Hd.zz L)) (tD : Fit (Hd.zz D)) (hh : ∀ t ∈ ts,If.Has1 L D t) (he : Hf.ln L 256 ≠ 0) :
  Calls Tryz.prog 42 #[LF w.heap.size,.pointer (some ⟨PL,0,none⟩),.pointer (some ⟨PD,0,none⟩),.pointer (some ⟨P,0,none⟩)] (boxes w) fun e w' => ∃ l,DynQ L D ts l /\ LayPost w (boxes w) w.heap.size (.slice none 0 0) l e w' := by
 have hly := boxes_ly w
 have HB := LH (begin_lay hly true 2 (by decide) (by simp))
 have HP := LH (fun W (hb : Below w.heap.size w W) => And.intro (hp.later hb).one.1 (And.intro (hpL.later hb).one.1 (hpD.later hb).one.1))
 have PUT := LH (fun W (hb : Below w.heap.size w W) => header_put L D gL 0 kL gD 0 kD W (hgl.later hb) (hL.later hb) (hD.later hb) hL1 hL2 hD1 hD2 h15)
 have FEW := LH (fun C c (h : If.HV L D C c (rnL (L ++ D))) => head_few h h15)
 have htk : ∀ W,Below w.heap.size w W -> Tks W (.slice a n c) ts := fun W hb => hs.later hb
 have SYM : Hid (∀ (row : List Bool) (W : World),Lx w (boxes w) (.slice none 0 0) W w.heap.size ([] ++ begBits true 2 ++ row) -> row.length <= 100000 ->
   Calls Tryz.prog 30 #[LF w.heap.size,.slice a n c,.slice (some ⟨gL,0,none⟩) L.length kL,.slice (some ⟨gD,0,none⟩) D.length kD] W fun e w' => e = .returned (.tuple #[]) /\ Lx w (boxes w) (.slice none 0 0) w' w.heap.size ([] ++ begBits true 2 ++ row ++ (If.toksRow L D ts ++ cw L 256))) := by
  intro row W h1 hrow
  have hbW := h1.b
  obtain ⟨tv1,hly1,hfz1⟩ := h1
  have hfb : ∀ g,g < w.heap.size -> Fb w.heap.size tv1 W g := fun g k1 => ⟨Nat.lt_of_lt_of_le k1 hbW.size,by omega,by omega,by omega,fun e => by have := (World.ownsRow.lt hly1.t.2 g e).1; omega⟩
  refine (symbols_lay hly1 a n c ts htk hn L D gL kL gD kD (nat_ln (hL.later hbW)) (nat_ln (hD.later hbW)) (hfb gL hL.1) (hfb gD hD.1) tL tD (by omega) (by omega) (by omega) (by omega) hv hh he (by simp [begBits,Bs.bitsOf_length]; omega)).mono ?_
  rintro e w' ⟨rfl,tv',h8,h9⟩
  exact ⟨rfl,tv',h8,hfz1.trans h9⟩
 clear hly hp hpL hpD hs hn hn9 hv htk hL hD hL1 hL2 hD1 hD2 h15 tL tD hh he hgl
 go_enter Tryz.func42,Tryz.ntmps42
 go_wp2_with fail
 refine (show Calls Tryz.prog 29 #[_,_,.int .i64 2] _ _ from HB.out).mono ?_
 clear HB
 rintro e w1 ⟨rfl,h1⟩
 have H1 := LH (show Lx w (boxes w) (.slice none 0 0) w1 w.heap.size ([] ++ begBits true 2) from h1)
 obtain ⟨p0,pL,pD⟩ := HP.out w1 H1.out.b
 have PU := LH (PUT.out w1 H1.out.b)
 clear h1 PUT
 go_wp2_with fail
 refine PU.out.mono ?_
 clear PU
 rintro e w2 ⟨C,cc,g,m,hHV,rfl,hsl,hb⟩
 have hfew := FEW.out C cc hHV
 obtain ⟨row,hrow⟩ : ∃ x,x = If.headRow L D C cc (rnL (L ++ D)) := ⟨_,rfl⟩
 rw [<- hrow] at hsl hfew ⊢
 obtain ⟨nr,hnr⟩ : ∃ x,x = row.length := ⟨_,rfl⟩
 rw [<- hnr]
 have LAY := LH ((H1.out.later hb).lay (.slice (some ⟨g,0,none⟩) m m) row nr hsl (LH hnr) (by simp [begBits,Bs.bitsOf_length]; omega))
 have SY := LH (fun W h => SYM.out row W h hfew)
 have HROW := LH (And.intro hHV hrow)
 clear hHV hrow hnr hsl hb hfew FEW SYM H1 p0 pL pD
 go_wp2_with fail
 refine (show Calls Tryz.prog 57 #[.agg #[.slice (some ⟨g,0,none⟩) m m,.int .i64 (nr : Int)],.int .i64 0,_,_,_] _ _ from LAY.out).mono ?_
 clear LAY
 rintro e w3 ⟨rfl,h3⟩
 obtain ⟨p0,pL,pD⟩ := HP.out w3 h3.b
 have S3 := LH (SY.out w3 h3)
 clear HP SY h3
 go_wp2_with fail
 refine S3.out.mono ?_
 clear S3
 rintro e w4 ⟨rfl,h4⟩
 have H4 := LH h4
 clear h4 p0 pL pD
 go_wp2
 refine ⟨rfl,.tuple #[],by simp [results,Tryz.results42,go_sem],_,⟨C,cc,HROW.out.1,rfl⟩,?_⟩
 have h := H4.out.post
 rw [HROW.out.2,List.nil_append,List.append_assoc] at h
 exact h
end
section
open Go.RowKit
namespace If
theorem bb_append (a b : List Nat) : bb (a ++ b) = bb a ++ bb b := by
 apply List.ext_getElem?
 intro i
 by_cases h : i < 8 * a.length
 ·rw [List.getElem?_append_left (by rw [bb_length]; exact h)]
  unfold bb Bs.bitsFrom
  rw [List.getElem?_map,List.getElem?_map,List.getElem?_range (by rw [List.length_append]; omega),List.getElem?_range h,Option.map_some,Option.map_some,List.getElem?_append_left (by omega)]
 ·rw [List.getElem?_append_right (by rw [bb_length]; omega),bb_length]
  by_cases h2 : i < 8 * (a ++ b).length
  ·rw [List.length_append] at h2
   unfold bb Bs.bitsFrom
   rw [List.getElem?_map,List.getElem?_map,List.getElem?_range (by rw [List.length_append]; omega),List.getElem?_range (by omega),Option.map_some,Option.map_some,List.getElem?_append_right (by omega)]
   rw [show (i - 8 * a.length) / 8 = i / 8 - a.length by omega,show (i - 8 * a.length) % 8 = i % 8 by omega]
  ·rw [List.getElem?_eq_none (by rw [bb_length]; omega),List.getElem?_eq_none (by rw [bb_length]; rw [List.length_append] at h2; omega)]
theorem bb_one (x : Nat) : bb [x] = Bs.bitsOf x 8 := by
 unfold bb Bs.bitsFrom Bs.bitsOf
 apply List.map_congr_left
 intro i hi
 rw [List.mem_range] at hi
 have : i < 8 := by simpa using hi
 rw [show i / 8 = 0 by omega,show i % 8 = i by omega]
 rfl
theorem bitsOf_add (v a b : Nat) : Bs.bitsOf v (a + b) = Bs.bitsOf v a ++ Bs.bitsOf (v / 2 ^ a) b := by
 unfold Bs.bitsOf
 rw [List.range_add,List.map_append,List.map_map]
 congr 1
 apply List.map_congr_left
 intro i _
 simp [Nat.testBit_div_two_pow,Nat.add_comm]
theorem bitsOf_mod (v n : Nat) : Bs.bitsOf (v % 2 ^ n) n = Bs.bitsOf v n := by
 unfold Bs.bitsOf
 apply List.map_congr_left
 intro i hi
 rw [List.mem_range] at hi
 rw [Nat.testBit_mod_two_pow]
 simp [hi]
theorem bits16 (n : Nat) : Bs.bitsOf n 16 = bb [n % 256,n / 256] := by
 rw [show [n % 256,n / 256] = [n % 256] ++ [n / 256] from rfl,bb_append,bb_one,bb_one,show (16 : Nat) = 8 + 8 from rfl,bitsOf_add]
 congr 1
 exact (bitsOf_mod n 8).symm
def stoBits (last : Bool) (x : List Nat) : List Bool := begBits last 0 ++ (Bs.bitsOf 0 5 ++ (Bs.bitsOf x.length 16 ++ (Bs.bitsOf (65535 - x.length) 16 ++ bb x)))
theorem stoBits_is (last : Bool) (x : List Nat) (h : x.length < 65536) : stoBits last x = bb (blk last.toNat x) := by
 unfold stoBits blk
 rw [bits16,bits16]
 have e : begBits last 0 ++ (Bs.bitsOf 0 5 ++ (bb [x.length % 256,x.length / 256] ++ (bb [(65535 - x.length) % 256,(65535 - x.length) / 256] ++ bb x))) = bb [last.toNat] ++ (bb [x.length % 256,x.length / 256] ++ (bb [(65535 - x.length) % 256,(65535 - x.length) / 256] ++ bb x)) := by
  rw [<- List.append_assoc]
  congr 1
  rw [bb_one]
  cases last <;> decide
 rw [e,<- bb_append,<- bb_append,<- bb_append,show (65535 - x.length) % 256 = 255 - x.length % 256 by omega,show (65535 - x.length) / 256 = 255 - x.length / 256 by omega]
 rfl
theorem stoBits_length (last : Bool) (x : List Nat) (h : x.length < 65536) : (stoBits last x).length = 8 * (5 + x.length) := by rw [stoBits_is last x h,bb_length,blk_length]
end If
theorem stored_lay {w0 w : World} {T : Nat} {tv : Value} {l : List Bool} (h : Ly w0 w T tv l) (last : Bool) (a : Option Addr) (n c : Nat) (x : List Nat) (hs : ∀ W,Below T w0 W -> Sl W (.slice a n c) x) (hn : n <= 65535) (h9 : l.length <= 10000000) :
  Calls Tryz.prog 27 #[LF T,.bool last,.slice a n c] w (LayPost w0 w T tv (l ++ If.stoBits last x)) := by
 have hlen := (hs w h.b).len.1
 have h8 := sl_byte (hs w h.b)
 have HS := LH hs
 have H8 := LH h8
 have HLEN := LH hlen
 have HB := LH (begin_lay h last 0 (by decide) (by omega))
 have hsub : IntKind.i64.wrap (65535 - (n : Int)) = ((65535 - n : Nat) : Int) := by rw [IntWalk.i64_in _ (by omega)]; omega
 have hsub2 : (65535 - (n : Int)) = ((65535 - n : Nat) : Int) := by omega
 have H0 := LH (Lx.start h)
 clear hs h8 hlen h
 go_enter Tryz.func27,Tryz.ntmps27
 go_wp2_with fail
 refine (show Calls Tryz.prog 29 #[LF T,_,.int .i64 0] _ _ from HB.out).mono ?_
 clear HB
 rintro e w1 ⟨rfl,h1⟩
 have hl1 : (l ++ begBits last 0).length = l.length + 3 := by simp [begBits,Bs.bitsOf_length]
 have H1 := LH (show Lx w0 w tv w1 T (l ++ begBits last 0) from h1)
 have HN := LH (number_lay 0 5 w1 (by decide) (by decide))
 clear h1 H0
 go_wp2_with fail
 refine (show Calls Tryz.prog 59 #[.int .i64 0,.int .i64 5] _ _ from HN.out).mono ?_
 rintro e w2 ⟨a2,m2,c2,rfl,hs2,hb2⟩
 have HL := LH ((H1.out.later hb2).lay _ _ 5 hs2 (by show 5 = _; rw [Bs.bitsOf_length]) (by rw [hl1]; omega))
 clear HN H1 hs2 hb2
 go_wp2_with fail
 refine (show Calls Tryz.prog 57 #[.agg #[_,.int .i64 5],_,_,_,_] _ _ from HL.out).mono ?_
 rintro e w3 ⟨rfl,h3⟩
 have H3 := LH h3
 have HN := LH (number_lay n 16 w3 (by decide) (by omega))
 clear HL h3
 go_wp2_with fail
 refine (show Calls Tryz.prog 59 #[_,.int .i64 16] _ _ from HN.out).mono ?_
 rintro e w4 ⟨a4,m4,c4,rfl,hs4,hb4⟩
 have HL := LH ((H3.out.later hb4).lay _ _ 16 hs4 (by show 16 = _; rw [Bs.bitsOf_length]) (by simp only [List.length_append,Bs.bitsOf_length] at hl1 ⊢; omega))
 clear HN H3 hs4 hb4
 go_wp2_with fail
 refine (show Calls Tryz.prog 57 #[.agg #[_,.int .i64 16],_,_,_,_] _ _ from HL.out).mono ?_
 rintro e w5 ⟨rfl,h5⟩
 have H5 := LH h5
 have HN := LH (number_lay (65535 - n) 16 w5 (by decide) (by omega))
 clear HL h5
 go_wp2_with fail
 refine (show Calls Tryz.prog 59 #[_,.int .i64 16] _ _ from HN.out).mono ?_
 rintro e w6 ⟨a6,m6,c6,rfl,hs6,hb6⟩
 have HL := LH ((H5.out.later hb6).lay _ _ 16 hs6 (by show 16 = _; rw [Bs.bitsOf_length]) (by simp only [List.length_append,Bs.bitsOf_length] at hl1 ⊢; omega))
 clear HN H5 hs6 hb6 hsub hsub2
 go_wp2_with fail
 refine (show Calls Tryz.prog 57 #[.agg #[_,.int .i64 16],_,_,_,_] _ _ from HL.out).mono ?_
 rintro e w7 ⟨rfl,h7⟩
 have hs7 := HS.out w7 h7.b
 have HO := LH (of_any a n c (If.bb x) w7 (by rw [If.bb_pack x H8.out]; exact hs7) (by show _ = _; rw [If.bb_length,<- HLEN.out]) (by omega))
 have H7 := LH h7
 clear HL h7 hs7
 go_wp2_with fail
 refine HO.out.mono ?_
 rintro e w8 ⟨g,m,rfl,hm,hg,hx,hb8⟩
 have hxl : (If.bb x).length = 8 * n := by rw [If.bb_length,HLEN.out]
 rw [hxl] at hm ⊢
 have HL := LH ((H7.out.later hb8).lay (.slice (some ⟨g,0,none⟩) m m) (If.bb x) (8 * n) (Sl.has hx (Bs.pack_lt _) (by rw [Bs.pack_length,hxl]; omega) _ _ (by rw [Bs.pack_length,hxl,hm])) (by show _ = _; rw [hxl]) (by simp only [List.length_append,Bs.bitsOf_length] at hl1 ⊢; omega))
 clear HO H7 hm hg hx hb8 hxl
 go_wp2_with fail
 refine HL.out.mono ?_
 rintro e w9 ⟨rfl,h9'⟩
 have e9 : l ++ begBits last 0 ++ Bs.bitsOf 0 5 ++ Bs.bitsOf n 16 ++ Bs.bitsOf (65535 - n) 16 ++ If.bb x = l ++ If.stoBits last x := by
  unfold If.stoBits
  rw [<- HLEN.out]
  simp only [List.append_assoc]
 rw [e9] at h9'
 have H9 := LH h9'
 clear HL h9' e9
 go_wp2
 exact ⟨rfl,.tuple #[],by simp [results,Tryz.results27,go_sem],H9.out.post⟩
namespace If
def chk2 (x : List Nat) : List (List Nat) := if x.length < 65535 then [x] else [x.take 65535,x.drop 65535]
theorem chk2_ne (x : List Nat) : chk2 x ≠ [] := by unfold chk2; split <;> simp
theorem chk2_flat (x : List Nat) : (chk2 x).flatten = x := by unfold chk2; split <;> simp
theorem chk2_lt (x : List Nat) (h : x.length <= 65536) : ∀ y ∈ chk2 x,y.length < 65536 := by
 unfold chk2
 split
 ·intro y hy; simp at hy; subst hy; omega
 ·intro y hy
  simp at hy
  rcases hy with rfl | rfl
  ·rw [List.length_take]; omega
  ·rw [List.length_drop]; omega
theorem chk2_mem (x : List Nat) : ∀ y ∈ chk2 x,∀ z ∈ y,z ∈ x := by
 unfold chk2
 split
 ·intro y hy z hz; simp at hy; subst hy; exact hz
 ·intro y hy z hz
  simp at hy
  rcases hy with rfl | rfl
  ·exact List.mem_of_mem_take hz
  ·exact List.mem_of_mem_drop hz
def stoS (x : List Nat) : List Nat := strm (chk2 x)
theorem stoS_lt (x : List Nat) (h : x.length <= 65536) (h8 : ∀ z ∈ x,z < 256) : ∀ z ∈ stoS x,z < 256 := strm_lt _ (chk2_lt x h) (fun y hy z hz => h8 z (chk2_mem x y hy z hz))
theorem stoS_decode (x : List Nat) (h : x.length <= 65536) (h8 : ∀ z ∈ x,z < 256) (most : Int) (h1 : (x.length : Int) <= most) (h2 : most <= 65536) : decode (bb (stoS x)) most = (x,(stoS x).length,0) := by
 have := stored_decode (chk2 x) most (chk2_ne x) (chk2_lt x h) (fun y hy z hz => h8 z (chk2_mem x y hy z hz)) (by rw [chk2_flat]; exact h1) h2
 rw [chk2_flat] at this
 exact this
theorem stoS_bits (x : List Nat) (h : x.length <= 65536) : bb (stoS x) = if x.length < 65535 then stoBits true x else stoBits false (x.take 65535) ++ stoBits true (x.drop 65535) := by
 unfold stoS chk2
 split
 ·rw [stoBits_is true x (by omega)]; rfl
 ·rw [stoBits_is false _ (by rw [List.length_take]; omega),stoBits_is true _ (by rw [List.length_drop]; omega),<- bb_append]
  rfl
end If
theorem stored1_lay (w : World) (P : Nat) (a : Option Addr) (n c : Nat) (x : List Nat) (hp : Has w P (.cells #[.slice a n c] 22 (0,0))) (hs : Sl w (.slice a n c) x) (hcp : n <= c) (hn : n <= 65536) :
  Calls Tryz.prog 26 #[LF w.heap.size,.pointer (some ⟨P,0,none⟩)] (boxes w) (LayPost w (boxes w) w.heap.size (.slice none 0 0) (If.bb (If.stoS x))) := by
 have hly := boxes_ly w
 have hlen := hs.len.1
 obtain ⟨c0,_⟩ := (hp.later hly.b).one
 have hpl := hp.lt
 rw [If.stoS_bits x (by omega)]
 by_cases h65 : x.length < 65535
 ·rw [if_pos h65]
  have d1 : decide ((65535 : Int) <= (n : Int)) = false := by simp; omega
  have d1' : decide (65535 <= n) = false := by simp; omega
  have d2 : decide ((n : Int) ≥ 65535) = false := by simp; omega
  have HS := LH (stored_lay hly true a n c x (fun W hb => hs.later hb) (by omega) (by simp))
  clear hly hlen hp hs h65
  go_enter Tryz.func26,Tryz.ntmps26
  go_wp2_with fail
  refine wp_loop_rounds 1 ?_
  rw [rounds_succ]
  go_wp2_with fail
  refine HS.out.mono ?_
  rintro e w1 ⟨rfl,h1⟩
  have H1 := LH (show Lx w (boxes w) (.slice none 0 0) w1 w.heap.size ([] ++ If.stoBits true x) from h1)
  clear h1
  go_wp2
  exact ⟨rfl,.tuple #[],by simp [results,Tryz.results26,go_sem],H1.out.post⟩
 ·rw [if_neg h65]
  have d1 : decide ((65535 : Int) <= (n : Int)) = true := by simp; omega
  have d1' : decide (65535 <= n) = true := by simp; omega
  have d2 : decide ((n : Int) ≥ 65535) = true := by simp; omega
  have e1 : decide ((65535 : Int) <= ((n - 65535 : Nat) : Int)) = false := by simp; omega
  have e1' : decide (65535 <= n - 65535) = false := by simp; omega
  have i1 : (65535 : Int) <= (c : Int) := by omega
  have i2 : (65535 : Int) <= (n : Int) := by omega
  have i3 : 65535 <= c := by omega
  have i4 : 65535 <= n := by omega
  have HS1 := LH (stored_lay hly false a 65535 c (x.take 65535) (fun W hb => sl_take (hs.later hb) 65535 (by omega)) (Nat.le_refl _) (by simp))
  obtain ⟨b,off,rfl,hrow⟩ : ∃ b off,a = some ⟨b,off,none⟩ /\ ∀ W,Sl W (.slice a n c) x -> Sl W (.slice (some ⟨b,off + 65535,none⟩) (n - 65535) (c - 65535)) (x.drop 65535) /\ (n = 65535 -> ∀ q,Sl W (.slice (some q) 0 0) (x.drop 65535)) := by
   obtain ⟨a',len',cap',e,h1,h2,h3,h4,h5⟩ := hs
   injection e with ea el ec
   subst ea el ec
   obtain ⟨b,off,rfl,_,_⟩ := h5 (by omega)
   refine ⟨b,off,rfl,fun W hW => ?_⟩
   obtain ⟨a',len',cap',e,h1,h2,h3,h4,h5⟩ := hW
   injection e with ea el ec
   subst ea el ec
   refine ⟨⟨_,n - 65535,c - 65535,rfl,by rw [List.length_drop]; omega,by omega,fun h => by simp at h,fun z hz => h4 z (List.mem_of_mem_drop hz),fun h0 => ?_⟩,fun h0 q => ?_⟩
   ·obtain ⟨b',off',e,hb,hc⟩ := h5 (by omega)
    injection e with e
    injection e with e1 e2 _
    subst e1 e2
    refine ⟨b,off + 65535,rfl,hb,fun i hi => ?_⟩
    have := hc (65535 + i) (by omega)
    rw [List.getElem?_drop]
    rw [Nat.add_assoc]
    exact this
   ·have hd : x.drop 65535 = [] := by apply List.eq_nil_of_length_eq_zero; rw [List.length_drop]; omega
    rw [hd]
    exact ⟨_,0,0,rfl,rfl,by omega,fun h => by simp at h,(by intro z hz; cases hz),fun h => absurd h (by omega)⟩
  have HROW := LH (fun W (hb : Below w.heap.size w W) => hrow W (hs.later hb))
  have hfl : (If.stoBits false (x.take 65535)).length = 8 * (5 + 65535) := by rw [If.stoBits_length false _ (by rw [List.length_take]; omega),List.length_take]; omega
  have HFL := LH hfl
  have HC0 : Hid (c = 65535 -> n = 65535) := by show _ -> _; omega
  clear hly hlen hp hs h65 hrow hfl
  by_cases hc65 : c = 65535
  ·obtain rfl : n = 65535 := HC0.out hc65
   subst hc65
   go_enter Tryz.func26,Tryz.ntmps26
   go_wp2_with fail
   refine wp_loop_rounds 2 ?_
   rw [rounds_succ]
   go_wp2_with fail
   refine HS1.out.mono ?_
   rintro e w1 ⟨rfl,h1⟩
   have h1' : Lx w (boxes w) (.slice none 0 0) w1 w.heap.size ([] ++ If.stoBits false (x.take 65535)) := h1
   have h2 := h1'.call fun tvi hly => stored_lay hly true (some ⟨b,off,none⟩) 0 0 (x.drop 65535) (fun W hb => (HROW.out W hb).2 (by first | trivial | rfl) _) (by omega) (by rw [List.nil_append,HFL.out]; omega)
   have HS2 := LH h2
   clear h1 h1' h2 HS1
   go_wp2_with fail
   rw [rounds_succ]
   go_wp2_with fail
   refine HS2.out.mono ?_
   rintro e w2 ⟨rfl,h2⟩
   have H2 := LH (show Lx w (boxes w) (.slice none 0 0) w2 w.heap.size (If.stoBits false (x.take 65535) ++ If.stoBits true (x.drop 65535)) from h2)
   clear h2 HS2
   go_wp2
   exact ⟨rfl,.tuple #[],by simp [results,Tryz.results26,go_sem],H2.out.post⟩
  ·go_enter Tryz.func26,Tryz.ntmps26
   go_wp2_with fail
   refine wp_loop_rounds 2 ?_
   rw [rounds_succ]
   go_wp2_with fail
   refine HS1.out.mono ?_
   rintro e w1 ⟨rfl,h1⟩
   have h1' : Lx w (boxes w) (.slice none 0 0) w1 w.heap.size ([] ++ If.stoBits false (x.take 65535)) := h1
   have h2 := h1'.call fun tvi hly => stored_lay hly true (some ⟨b,off + 65535,none⟩) (n - 65535) (c - 65535) (x.drop 65535) (fun W hb => (HROW.out W hb).1) (by omega) (by rw [List.nil_append,HFL.out]; omega)
   have HS2 := LH h2
   clear h1 h1' h2 HS1
   go_wp2_with fail
   rw [rounds_succ]
   go_wp2_with fail
   refine HS2.out.mono ?_
   rintro e w2 ⟨rfl,h2⟩
   have H2 := LH (show Lx w (boxes w) (.slice none 0 0) w2 w.heap.size (If.stoBits false (x.take 65535) ++ If.stoBits true (x.drop 65535)) from h2)
   clear h2 HS2
   go_wp2
   exact ⟨rfl,.tuple #[],by simp [results,Tryz.results26,go_sem],H2.out.post⟩
theorem stored_ok (a : Option Addr) (n c : Nat) (x : List Nat) (w : World) (hs : Sl w (.slice a n c) x) (hcp : n <= c) (hn : n <= 65536) : Calls Tryz.prog 11 #[.slice a n c] w (StrPost w (If.stoS x)) := by
 have hb1 := below1 w (.cells #[.slice a n c] 22)
 have hx := Has.new w (.cells #[.slice a n c] 22)
 have hst := stream_ok 26 #[.pointer (some ⟨w.heap.size,0,none⟩)] Tryz.call26 (w.alloc (.cells #[.slice a n c] 22)) _ (stored1_lay (w.alloc (.cells #[.slice a n c] 22)) w.heap.size a n c x hx (hs.later hb1) hcp hn)
 rw [If.bb_pack _ (If.stoS_lt x (by have := hs.len.1; omega) (sl_byte hs))] at hst
 have HST := LH hst
 have HB := LH hb1
 have d1 : decide ((65536 : Int) < (n : Int)) = false := by simp; omega
 have d1' : decide (65536 < n) = false := by simp; omega
 clear hst hb1 hx hs
 go_enter Tryz.func11,Tryz.ntmps11
 go_wp2_with fail
 refine HST.out.mono ?_
 clear HST
 rintro e w1 ⟨v,rfl,ho,hb⟩
 have HO := LH (own_weaken ho (show w.heap.size <= (w.alloc (.cells #[.slice a n c] 22)).heap.size by simp))
 have HBB := LH (HB.out.trans (hb.mono HB.out.size))
 clear ho hb
 go_wp2
 refine bodyPost_ret (v := .tuple #[v,.int .i64 0]) (by simp [results,Tryz.results11,go_sem]) rfl ⟨_,rfl,HO.out,HBB.out⟩
theorem stored_large (a : Option Addr) (n c : Nat) (w : World) (hn : 65536 < n) : Calls Tryz.prog 11 #[.slice a n c] w fun e w' => e = .returned (.tuple #[.slice none 0 0,.int .i64 3]) /\ Below w.heap.size w w' := by
 have d1 : decide ((65536 : Int) < (n : Int)) = true := by simp; omega
 have d1' : decide (65536 < n) = true := by simp; omega
 have hb1 := below1 w (.cells #[.slice a n c] 22)
 go_enter Tryz.func11,Tryz.ntmps11
 go_wp2
 exact bodyPost_ret (v := .tuple #[.slice none 0 0,.int .i64 3]) (by simp [results,Tryz.results11,go_sem]) rfl ⟨rfl,hb1⟩
end
end Go.Proofs.YtckbhciehmokdaaGreatDoor
