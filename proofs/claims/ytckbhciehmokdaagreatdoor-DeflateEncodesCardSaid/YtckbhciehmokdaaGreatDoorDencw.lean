import Derived.Test.YtckbhciehmokdaaGreatDoorDrsto
import Derived.Test.YtckbhciehmokdaaGreatDoorIfix
import Derived.Test.YtckbhciehmokdaaGreatDoorMfbad
namespace Go.Proofs.YtckbhciehmokdaaGreatDoor
set_option maxRecDepth 100000
set_option maxHeartbeats 8000000
open Go.RowKit Go.Maps
theorem enc_out (a : Option Addr) (n c : Nat) (d : Int) (w : World) (hg : Glob w) (h1 : 600 < n) (h2 : n <= 65536) :
  Calls Tryz.prog 6 #[.slice a n c,.int .i64 d] w fun e w' => e = .returned (.bool true) /\ Below w.heap.size w w' := by
 have HL := LH (tail11 (Below.refl w.heap.size w) hg)
 have e1 : (600 : Int) < (n : Int) := by omega
 have e2 : (n : Int) <= 65536 := by omega
 clear hg h1 h2
 go_enter Tryz.func6,Tryz.ntmps6
 go_wp2_with fail
 refine HL.out.mono ?_
 rintro e w' ⟨rfl,hb⟩
 have HB := LH hb
 clear hb HL
 go_wp2
 go_ret
 exact ⟨rfl,HB.out⟩
theorem enc_large (a : Option Addr) (n c : Nat) (d : Int) (bs : List Nat) (w : World) (hg : Glob w) (hs : Sl w (.slice a n c) bs) (h1 : 65536 < n) (h9 : n <= 140737488351232) :
  Calls Tryz.prog 6 #[.slice a n c,.int .i64 d] w fun e w' => e = .returned (.bool true) /\ Below w.heap.size w w' := by
 have e1 : (600 : Int) < (n : Int) := by omega
 have e2 : ¬ (n : Int) <= 65536 := by omega
 have e3 : (65536 : Int) < (n : Int) := by omega
 obtain ⟨g,k,w1,hr,ho1,hb1⟩ := bytes_big w a n c bs 22 hs h9
 have hs1 := Sl.owned ho1 (sl_byte hs) (by omega)
 clear ho1
 have HR := LH hr
 have HE := LH (encode_bad (some ⟨g,0,none⟩) n k d w1 (Or.inl h1))
 rw [if_pos h1] at HE
 have HL := LH (tail11 hb1 hg)
 clear hr hs1 hb1 hg hs h1 h9
 go_enter Tryz.func6,Tryz.ntmps6
 go_wp2_with (at_builtin; (refine wpList_append_is rfl (.tmp 22) (.tmp 23) 22 rfl _ _ _ _ rfl rfl HR.out ?_))
 refine HE.out.mono ?_
 clear HE HR
 rintro e w2 ⟨rfl,rfl⟩
 go_wp2_with fail
 refine HL.out.mono ?_
 rintro e w' ⟨rfl,hb⟩
 have HB := LH hb
 clear hb HL
 go_wp2
 go_ret
 exact ⟨rfl,HB.out⟩
theorem enc_arg (a : Option Addr) (n c : Nat) (d : Int) (bs : List Nat) (w : World) (hg : Glob w) (hs : Sl w (.slice a n c) bs) (h1 : n <= 600) (hd : d < 1 ∨ 4096 < d) :
  Calls Tryz.prog 6 #[.slice a n c,.int .i64 d] w fun e w' => e = .returned (.bool true) /\ Below w.heap.size w w' := by
 have e1 : ¬ (600 : Int) < (n : Int) := by omega
 have e3 : ¬ (65536 : Int) < (n : Int) := by omega
 have e3' : decide ((65536 : Int) < (n : Int)) = false := by simp; omega
 obtain ⟨g,k,w1,hr,ho1,hb1⟩ := bytes_big w a n c bs 22 hs (by omega)
 have hs1 := Sl.owned ho1 (sl_byte hs) (by omega)
 clear ho1
 have HR := LH hr
 have HE := LH (encode_bad (some ⟨g,0,none⟩) n k d w1 (Or.inr hd))
 rw [if_neg (by omega)] at HE
 have HL := LH (tail11 hb1 hg)
 clear hr hs1 hb1 hg hs h1
 by_cases hd1 : d < 1
 ·clear hd
  go_enter Tryz.func6,Tryz.ntmps6
  go_wp2_with (at_builtin; (refine wpList_append_is rfl (.tmp 22) (.tmp 23) 22 rfl _ _ _ _ rfl rfl HR.out ?_))
  refine HE.out.mono ?_
  clear HE HR
  rintro e w2 ⟨rfl,rfl⟩
  go_wp2_with fail
  refine HL.out.mono ?_
  rintro e w' ⟨rfl,hb⟩
  have HB := LH hb
  clear hb HL
  go_wp2
  go_ret
  exact ⟨rfl,HB.out⟩
 ·have hd2 : 4096 < d := by omega
  clear hd
  go_enter Tryz.func6,Tryz.ntmps6
  go_wp2_with (at_builtin; (refine wpList_append_is rfl (.tmp 22) (.tmp 23) 22 rfl _ _ _ _ rfl rfl HR.out ?_))
  refine HE.out.mono ?_
  clear HE HR
  rintro e w2 ⟨rfl,rfl⟩
  go_wp2_with fail
  refine HL.out.mono ?_
  rintro e w' ⟨rfl,hb⟩
  have HB := LH hb
  clear hb HL
  go_wp2
  go_ret
  exact ⟨rfl,HB.out⟩
theorem enc_in (a : Option Addr) (n c d : Nat) (bs : List Nat) (w : World) (hg : Glob w) (hs : Sl w (.slice a n c) bs) (hcp : n <= c) (h1 : n <= 600) (hd : 1 <= d) (hd2 : d <= 4096) :
  Calls Tryz.prog 6 #[.slice a n c,.int .i64 (d : Int)] w fun e w' => e = .returned (.bool true) /\ Below w.heap.size w w' := by
 have e1 : ¬ (600 : Int) < (n : Int) := by omega
 have e3 : ¬ (65536 : Int) < (n : Int) := by omega
 have e4 : ¬ (d : Int) < 1 := by omega
 have e5 : ¬ (4096 : Int) < (d : Int) := by omega
 have h8 : ∀ x ∈ bs,x < 256 := sl_byte hs
 have hl := hs.len.1
 obtain ⟨g,k,w1,hr,ho1,hb1⟩ := bytes_first w a n c bs 22 hs (by omega)
 have hs1 := Sl.owned ho1 h8 (by omega)
 have HR := LH hr
 have HD := LH (encode_ok (some ⟨g,0,none⟩) n k d bs w1 (hg.later hb1) hs1 (own_le ho1) (by omega) hd hd2)
 have HB1 := LH hb1
 have HI1 := LH hs1
 have HS := LH hs
 have HG := LH hg
 have H8 := LH h8
 have HLN := LH hl
 have HCP := LH hcp
 clear hr ho1 hb1 hs1 hs hg h8 hl hcp
 go_enter Tryz.func6,Tryz.ntmps6
 go_wp2_with (at_builtin; (refine wpList_append_is rfl (.tmp 22) (.tmp 23) 22 rfl _ _ _ _ rfl rfl HR.out ?_))
 refine HD.out.mono ?_
 clear HD HR
 rintro e w2 ⟨a2,n2,c2,o2,rfl,hp2,-,hb2⟩
 have HB2 := LH (HB1.out.trans (hb2.mono HB1.out.size))
 have HI2 := LH (HI1.out.later hb2)
 have HP2 := LH hp2
 have HD := LH (rstored_ok a n c bs w2 (HS.out.later HB2.out) HCP.out (by omega))
 clear hb2 hp2 HB1 HI1
 go_wp2_with fail
 refine HD.out.mono ?_
 clear HD
 rintro e w3 h3
 obtain ⟨a3,c3,rfl,-,-,hb3⟩ := str_post h3 (If.stoS_lt bs (by rw [<- HLN.out]; omega) H8.out) (by have := stoS_length bs (by rw [<- HLN.out]; omega); have := HLN.out; omega)
 have HB3 := LH (HB2.out.trans (hb3.mono HB2.out.size))
 have HI3 := LH (HI2.out.later hb3)
 have hp3 := HP2.out.later hb3
 have hle := hp3.sto
 rw [<- hp3.len] at hle
 have hn2 : n2 <= 1000000 := by have := stoS_length bs (by rw [<- HLN.out]; omega); have := HLN.out; omega
 have HD := LH (jdec_is a2 n2 c2 o2 65536 w3 (Sl.owned hp3.own (src_lt hp3.src H8.out (by rw [<- HLN.out]; omega)) (by omega)) (own_le hp3.own) hn2 _ _ _ (src_decode hp3.src H8.out (by rw [<- HLN.out]; omega) 65536 (by rw [<- HLN.out]; omega) (by decide)))
 rw [<- hp3.len,<- HLN.out] at HD
 obtain ⟨ns,hns⟩ : ∃ x,x = (If.stoS bs).length := ⟨_,rfl⟩
 rw [<- hns] at hle
 rw [<- hns]
 have l1 : (n2 : Int) <= (ns : Int) := by omega
 clear h3 hb3 hp3 hn2 hns HP2 HI2 HB2 hle
 go_wp2_with fail
 refine HD.out.mono ?_
 clear HD
 rintro e w4 ⟨a4,c4,rfl,hs4,hb4⟩
 have HB4 := LH (HB3.out.trans (hb4.mono HB3.out.size))
 obtain ⟨S,hS⟩ : ∃ S,S = strB bs := ⟨_,rfl⟩
 have r1 := string_of w4 a4 n c4 bs S hs4 (LH hS)
 have r2 := string_of w4 a n c bs S (HS.out.later HB4.out) (LH hS)
 have r3 := string_of w4 (some ⟨g,0,none⟩) n k bs S (HI3.out.later hb4) (LH hS)
 have HL := LH (tail11 HB4.out HG.out)
 clear hs4 hb4 hS HI3 HB3
 go_wp2_with fail
 refine HL.out.mono ?_
 rintro e w' ⟨rfl,hb⟩
 have HB := LH hb
 clear hb HL
 go_wp2
 go_ret
 exact ⟨rfl,HB.out⟩
end Go.Proofs.YtckbhciehmokdaaGreatDoor
