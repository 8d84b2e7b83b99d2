import Derived.Test.YtmgpcbjciioiaaaGreatDoorDliv
import Derived.Test.YtmgpcbjciioiaaaGreatDoorIstow
import Derived.Test.YtmgpcbjciioiaaaGreatDoorMown
import Derived.Test.YtmgpcbjciioiaaaGreatDoorMref
import Derived.Test.YtmgpcbjciioiaaaGreatDoorDenc2
namespace Go.Proofs.YtmgpcbjciioiaaaGreatDoor
set_option maxRecDepth 100000
set_option maxHeartbeats 8000000
section
open Go.RowKit Go.Maps
theorem tail11 {w w1 : World} (hb : Below w.heap.size w w1) (hg : Glob w) : Calls Tryz.prog 13 #[] w1 fun e w' => e = .returned (.bool true) /\ Below w.heap.size w w' :=
 (lives10 w1 (hg.later hb)).mono fun _ _ h => ⟨h.1,hb.trans (h.2.mono hb.size)⟩
end
section
open Go.RowKit Go.Maps
theorem ddy_out (a : Option Addr) (n c : Nat) (w : World) (hg : Glob w) (h1 : 300 < n) :
  Calls Tryz.prog 5 #[.slice a n c] w fun e w' => e = .returned (.bool true) /\ Below w.heap.size w w' := by
 have HL := LH (tail11 (Below.refl w.heap.size w) hg)
 have e1 : (300 : Int) < (n : Int) := by omega
 clear hg h1
 go_enter Tryz.func5,Tryz.ntmps5
 go_wp2_with fail
 refine HL.out.mono ?_
 rintro e w' ⟨rfl,hb⟩
 have HB := LH hb
 clear hb HL
 go_wp2
 go_ret
 exact ⟨rfl,HB.out⟩
theorem ddy_bad (a : Option Addr) (n c : Nat) (ts : List If.Tk) (t0 : Ti) (rest : List Ti) (w : World) (hg : Glob w) (hs : Tis w (.slice a n c) (ts.map Ti.of ++ t0 :: rest)) (hnil : a = none -> c = 0) (hn : n = (ts.map Ti.of ++ t0 :: rest).length) (h1 : n <= 300)
  (hts : If.Toks ts) (hm : (If.tell ts).length <= 65536) (h8 : t0.lit < 256) (ee : Int) (hee : t0.flt (If.tell ts).length 65536 = ee) (he0 : ee ≠ 0) :
  Calls Tryz.prog 5 #[.slice a n c] w fun e w' => e = .returned (.bool true) /\ Below w.heap.size w w' := by
 have e1 : ¬ (300 : Int) < (n : Int) := by omega
 have HD := LH (own_toks a n c _ w hs hnil hn (by omega))
 have HS := LH hs
 have HG := LH hg
 have HB0 := LH (expand_bad (most := 65536) (ts := ts) (t0 := t0) (rest := rest) (hts := hts) (hm := hm) (h9 := Nat.le_refl _) (h8 := h8) (ee := ee) (hee := hee) (he0 := he0))
 have HR0 := LH (rexp_bad (most := 65536) (ts := ts) (t0 := t0) (rest := rest) (hts := hts) (hm := hm) (h9 := Nat.le_refl _) (h8 := h8) (ee := ee) (hee := hee) (he0 := he0))
 have d1 : (ee == 0) = false := by simp; exact he0
 have d2 : ((0 : Int) == ee) = false := by simp; omega
 clear hs hg hn hnil hm hts
 go_enter Tryz.func5,Tryz.ntmps5
 go_wp2_with fail
 refine HD.out.mono ?_
 clear HD
 rintro e w1 ⟨g,k,rfl,hs1,hb1⟩
 have HB1 := LH hb1
 have HD := LH (dynamic_bad (some ⟨g,0,none⟩) n k w1 ee he0 (fun W hW => HB0.out _ _ _ W (hs1.later hW)))
 clear hs1 hb1
 go_wp2_with fail
 refine HD.out.mono ?_
 clear HD
 rintro e w2 ⟨rfl,hb2⟩
 have HB2 := LH (HB1.out.trans (hb2.mono HB1.out.size))
 have HD := LH (HR0.out a n c w2 (HS.out.later HB2.out))
 clear hb2 HB1
 go_wp2_with fail
 refine HD.out.mono ?_
 clear HD
 rintro e w3 ⟨rfl,hb3⟩
 have HB3 := LH (HB2.out.trans (hb3.mono HB2.out.size))
 have HL := LH (tail11 HB3.out HG.out)
 clear hb3 HB2 hee
 go_wp2_with fail
 refine HL.out.mono ?_
 rintro e w' ⟨rfl,hb⟩
 have HB := LH hb
 clear hb HL
 go_wp2
 go_ret
 exact ⟨rfl,HB.out⟩
theorem pkD_head {ts : List If.Tk} {out : List Nat} (h : PkD ts out) : ∃ x r,out = x :: r /\ x &&& 7 = 5 := by
 obtain ⟨l,⟨C,c,hv,hl⟩,rfl⟩ := h
 obtain ⟨r,hr⟩ : ∃ r,l = true :: false :: true :: r := ⟨_,hl⟩
 subst hr
 have hp : Bs.pack (true :: false :: true :: r) = Bs.byteAt (true :: false :: true :: r) 0 :: (Bs.pack (true :: false :: true :: r)).tail := by
  have h0 : 0 < ((true :: false :: true :: r).length + 7) / 8 := by simp only [List.length_cons]; omega
  have h1 := Bs.packTo_get' (((true :: false :: true :: r).length + 7) / 8) (true :: false :: true :: r) 0 h0
  change (Bs.pack (true :: false :: true :: r))[0]? = _ at h1
  cases hq : Bs.pack (true :: false :: true :: r) with
  | nil => rw [hq] at h1; simp at h1
  | cons y ys => rw [hq] at h1; simp at h1; simp [h1]
 refine ⟨_,_,hp,?_⟩
 rw [show (7 : Nat) = 2 ^ 3 - 1 from rfl,Nat.and_two_pow_sub_one_eq_mod]
 unfold Bs.byteAt
 simp only [Nat.mul_zero,List.drop_zero,List.take_succ_cons,Bs.num,Bool.toNat_true,Bool.toNat_false]
 omega
theorem ddy_in (a : Option Addr) (n c : Nat) (ts : List If.Tk) (w : World) (hg : Glob w) (hs : Tis w (.slice a n c) (ts.map Ti.of)) (hnil : a = none -> c = 0) (hn : n = (ts.map Ti.of).length) (h1 : n <= 300)
  (hts : If.Toks ts) (hm : (If.tell ts).length <= 65536) :
  Calls Tryz.prog 5 #[.slice a n c] w fun e w' => e = .returned (.bool true) /\ Below w.heap.size w w' := by
 have e1 : ¬ (300 : Int) < (n : Int) := by omega
 have HD := LH (own_toks a n c _ w hs hnil hn (by omega))
 have HS := LH hs
 have HG := LH hg
 have HN := LH hn
 have HT := LH (fun _ : Unit => hts)
 have HM := LH hm
 clear hs hg hn hnil hm hts
 go_enter Tryz.func5,Tryz.ntmps5
 go_wp2_with fail
 refine HD.out.mono ?_
 clear HD
 rintro e w1 ⟨g,k,rfl,hs1,hb1⟩
 have HB1 := LH hb1
 have HI1 := LH hs1
 have HD := LH (dynamic_ok (some ⟨g,0,none⟩) n k ts w1 (HG.out.later hb1) (hs1.tks) (by rw [HN.out,List.length_map]) (HT.out ()) HM.out)
 clear hs1 hb1
 go_wp2_with fail
 refine HD.out.mono ?_
 clear HD
 rintro e w2 ⟨l,hq,h2⟩
 obtain ⟨out,ho⟩ : ∃ out,out = Bs.pack l := ⟨_,rfl⟩
 have hpk : PkD ts out := ⟨l,hq,ho⟩
 rw [<- ho] at h2
 clear hq ho
 obtain ⟨-,hl2,h82⟩ := pkD_len hpk (HT.out ()) HM.out
 obtain ⟨a2,c2,rfl,hs2,hc2,hb2⟩ := str_post h2 h82 hl2
 have HB2 := LH (HB1.out.trans (hb2.mono HB1.out.size))
 have HI2 := LH (HI1.out.later hb2)
 have HP := LH hpk
 have HO2 := LH hs2
 have HC2 := LH hc2
 have HL2 := LH hl2
 have HD := LH (rexp_ok a n c ts 65536 w2 (HS.out.later HB2.out).tks (HT.out ()) HM.out (Nat.le_refl _))
 clear h2 hb2 hs2 hc2 h82 hpk hl2 HB1 HI1
 go_wp2_with fail
 refine HD.out.mono ?_
 clear HD
 rintro e w3 ⟨v3,rfl,ho3,hb3⟩
 obtain ⟨a3,c3,rfl⟩ := own_slice ho3
 have HB3 := LH (HB2.out.trans (hb3.mono HB2.out.size))
 have HI3 := LH (HI2.out.later hb3)
 have HO3 := LH (HO2.out.later hb3)
 have HW3 := LH (Sl.owned ho3 (If.tell_bytes (HT.out ())) (by have := HM.out; omega))
 clear ho3 hb3 HB2 HI2 HO2
 obtain ⟨x,r,hxr,hx5⟩ := pkD_head HP.out
 have hnz : ¬ out.length = 0 := by rw [hxr]; simp
 obtain ⟨nz,hnz2⟩ : ∃ z,z = out.length := ⟨_,rfl⟩
 rw [<- hnz2] at hnz
 have hpos : 0 < nz := by omega
 obtain ⟨b,off,rfl,hbl,rc,hx8,_⟩ := HO3.out.at 0 (by omega)
 have hx0 : out[0]?.getD 0 = x := by rw [hxr]; rfl
 rw [hx0,Nat.add_zero] at rc
 rw [hx0] at hx8
 have n1 : ¬ out = [] := by rw [hxr]; simp
 have n2 : ¬ (out.length : Int) = 0 := by omega
 clear hxr hx0
 have HS3 := LH (fun W (hW : Below w3.heap.size w3 W) => same_toks (some ⟨g,0,none⟩) a n k c _ W (HI3.out.later hW) ((HS.out.later HB3.out).later hW) (by omega))
 have hx7 : (x : Int) % 8 = 5 := by
  rw [show (7 : Nat) = 2 ^ 3 - 1 from rfl,Nat.and_two_pow_sub_one_eq_mod] at hx5
  omega
 have HC := LH (fun _ : Unit => pkD_decode HP.out (HT.out ()) 65536 (by have := HM.out; omega) (by decide))
 clear hx5 hnz hnz2 hpos nz
 go_wp2_with fail
 all_goals try exact absurd ‹out = []› n1
 refine (HS3.out w3 (Below.refl _ _)).mono ?_
 clear HS3
 rintro e w4 ⟨rfl,hb4⟩
 have HB4 := LH (HB3.out.trans (hb4.mono HB3.out.size))
 have HO4 := LH (HO3.out.later hb4)
 have HW4 := LH (HW3.out.later hb4)
 have HD := LH (jdec_is (some ⟨b,off,none⟩) out.length c2 out 65536 w4 HO4.out HC2.out HL2.out _ _ _ (HC.out ()))
 clear hb4 HB3 HO3 HW3 HI3
 go_wp2_with fail
 refine HD.out.mono ?_
 clear HD
 rintro e w5 ⟨a5,c5,rfl,hs5,hb5⟩
 have HB5 := LH (HB4.out.trans (hb5.mono HB4.out.size))
 obtain ⟨S,hS⟩ : ∃ S,S = strB (If.tell ts) := ⟨_,rfl⟩
 have r1 := string_of w5 a5 _ c5 (If.tell ts) S hs5 (LH hS)
 have r2 := string_of w5 a3 _ c3 (If.tell ts) S (HW4.out.later hb5) (LH hS)
 have HL := LH (tail11 HB5.out HG.out)
 clear hs5 hb5 hS HB4
 go_wp2_with fail
 refine HL.out.mono ?_
 rintro e w' ⟨rfl,hb⟩
 have HB := LH hb
 clear hb HL
 go_wp2
 go_ret
 exact ⟨rfl,HB.out⟩
end
end Go.Proofs.YtmgpcbjciioiaaaGreatDoor
