import Derived.Test.YtckbhciehmokdaaGreatDoorDrsto
import Derived.Test.YtckbhciehmokdaaGreatDoorIfix
namespace Go.Proofs.YtckbhciehmokdaaGreatDoor
set_option maxRecDepth 100000
set_option maxHeartbeats 8000000
open Go.RowKit Go.Maps
def Byts (w : World) (g n : Nat) : Prop := ∀ j,j < n -> (∃ v : Int,w.cell? ⟨g,j,none⟩ = some (.int .u8 v)) /\ w.frozen? ⟨g,j,none⟩ = false
theorem Byts.own {w : World} {base g n c : Nat} {bs : List Nat} (h : w.ownsRow base 5 1 (.slice (some ⟨g,0,none⟩) n c) n (vb bs)) (hn : n = bs.length) : Byts w g n := by
 intro j hj
 rcases h.2 with ⟨h1,h2⟩ | ⟨g',cap,cur,h1,_,hg,_⟩
 ·cases h1
 ·cases h1
  refine ⟨?_,Has.free (show Has w g (.cells cur 5 (0,0)) from hg) j⟩
  obtain ⟨b,off,cap2,h3,hc⟩ := own_byte h j (by omega)
  cases h3
  rw [Nat.zero_add] at hc
  exact ⟨_,hc⟩
theorem Byts.set {w : World} {g n : Nat} (h : Byts w g n) (k : Nat) (v : Int) : Byts (w.setCell ⟨g,k,none⟩ (.int .u8 v)) g n := by
 intro j hj
 obtain ⟨⟨u,hu⟩,hf⟩ := h j hj
 refine ⟨?_,by rw [World.frozen?_setCell]; exact hf⟩
 by_cases e : j = k
 ·subst e
  exact ⟨v,World.cell?_setCell_same' _ _ _ (by rw [hu]; rfl)⟩
 ·exact ⟨u,by rw [World.cell?_setCell_other _ _ _ _ (fun e2 => e (by cases e2; rfl))]; exact hu⟩
theorem sto_large (a : Option Addr) (n c : Nat) (bs : List Nat) (w : World) (hg : Glob w) (hs : Sl w (.slice a n c) bs) (h1 : 65536 < n) (h9 : n <= 140737488351232) :
  Calls Tryz.prog 3 #[.slice a n c] w fun e w' => e = .returned (.bool true) /\ Below w.heap.size w w' := by
 obtain ⟨g,k,w1,hr,ho1,hb1⟩ := bytes_big w a n c bs 22 hs h9
 have hs1 := Sl.owned ho1 (sl_byte hs) (by omega)
 clear ho1
 have HR := LH hr
 have HE := LH (stored_large (some ⟨g,0,none⟩) n k w1 h1)
 have HF := LH (fun wx => rstored_large a n c wx h1)
 have HB1 := LH hb1
 have HI1 := LH hs1
 have HS := LH hs
 have HG := LH hg
 clear hr hs1 hb1 hg hs h1 h9
 go_enter Tryz.func3,Tryz.ntmps3
 go_wp2_with (at_builtin; (refine wpList_append_is rfl (.tmp 9) (.tmp 10) 22 rfl _ _ _ _ rfl rfl HR.out ?_))
 refine HE.out.mono ?_
 clear HE HR
 rintro e w2 ⟨rfl,hb2⟩
 have HB2 := LH (HB1.out.trans (hb2.mono HB1.out.size))
 have HI2 := LH (HI1.out.later hb2)
 clear hb2 HB1 HI1
 go_wp2_with fail
 refine (HF.out _).mono ?_
 clear HF
 rintro e w3 ⟨rfl,rfl⟩
 obtain ⟨S,hS⟩ : ∃ S,S = strB bs := ⟨_,rfl⟩
 have r1 := string_of w2 none 0 0 [] _ (Sl.nil w2) (show Hid (({ data := #[] } : ByteArray) = strB []) from rfl)
 have r2 := string_of w2 a n c bs S (HS.out.later HB2.out) (LH hS)
 have r3 := string_of w2 (some ⟨g,0,none⟩) n k bs S HI2.out (LH hS)
 have HL := LH (tail11 HB2.out HG.out)
 clear hS HI2 HB2
 go_wp2_with fail
 go_loopw [8] (fun s wr => s = .int .i64 0 /\ w2 = wr) (fun _ _ => 0)
 case atStart => exact ⟨rfl,rfl⟩
 case round =>
  obtain ⟨rfl,rfl⟩ := hrel
  go_wp2_with fail
  refine HL.out.mono ?_
  rintro e w' ⟨rfl,hb⟩
  have HB := LH hb
  clear hb HL
  go_wp2
  go_ret
  exact ⟨rfl,HB.out⟩
theorem sto_in (a : Option Addr) (n c : Nat) (bs : List Nat) (w : World) (hg : Glob w) (hs : Sl w (.slice a n c) bs) (hcp : n <= c) (h1 : n <= 65536) :
  Calls Tryz.prog 3 #[.slice a n c] w fun e w' => e = .returned (.bool true) /\ Below w.heap.size w w' := by
 have h8 : ∀ x ∈ bs,x < 256 := sl_byte hs
 have hl := hs.len.1
 obtain ⟨g,k,w1,hr,ho1,hb1⟩ := bytes_first w a n c bs 22 hs (by omega)
 have hs1 := Sl.owned ho1 h8 (by omega)
 have HR := LH hr
 have HD := LH (stored_ok (some ⟨g,0,none⟩) n k bs w1 hs1 (own_le ho1) h1)
 have HB1 := LH hb1
 have HI1 := LH hs1
 have HS := LH hs
 have HG := LH hg
 have h18 := If.stoS_lt bs (by omega) h8
 have h19 := stoS_length bs (by omega)
 have h20 : 1 <= (If.stoS bs).length := by
  by_cases e : bs.length < 65535
  ·rw [stoS_one e,If.blk_length]; omega
  ·rw [stoS_two e,List.length_append,If.blk_length]; omega
 obtain ⟨so,hso⟩ : ∃ x,x = If.stoS bs := ⟨_,rfl⟩
 have HF := LH (fun wx (hb : Below w.heap.size w wx) => rstored_ok a n c bs wx (hs.later hb) hcp h1)
 rw [<- hso] at HD HF h18 h19 h20
 have hsl : so.length <= 1000000 := by omega
 have HX := LH (And.intro h18 (And.intro hsl h20))
 clear hr ho1 hb1 hs1 hs hg h8 hl hcp hso h18 h19 h20 hsl
 go_enter Tryz.func3,Tryz.ntmps3
 go_wp2_with (at_builtin; (refine wpList_append_is rfl (.tmp 9) (.tmp 10) 22 rfl _ _ _ _ rfl rfl HR.out ?_))
 refine HD.out.mono ?_
 clear HD HR
 rintro e w2 ⟨v2,rfl,ho2,hb2⟩
 have HB2 := LH (HB1.out.trans (hb2.mono HB1.out.size))
 obtain ⟨q,hq⟩ : ∃ q,q + 1 = so.length := ⟨so.length - 1,by have := HX.out.2.2; omega⟩
 rw [<- hq] at ho2
 obtain ⟨g2,c2,rfl,hg2⟩ : ∃ g2 c2,v2 = .slice (some ⟨g2,0,none⟩) (q + 1) c2 /\ w1.heap.size <= g2 := by
  rcases ho2.2 with ⟨_,h0⟩ | ⟨g2,cap,cur,h0,hlo,_⟩
  ·omega
  ·exact ⟨g2,cap,h0,hlo⟩
 have HO2 := LH ho2
 have HF2 := LH (HF.out w2 HB2.out)
 have HQ := LH hq
 obtain ⟨m,hm⟩ : ∃ m,m = q + 1 := ⟨_,rfl⟩
 rw [<- hm] at HO2 HQ
 rw [<- hm]
 have HC2 := LH hb2
 clear ho2 hb2 hq hm HF
 go_wp2_with fail
 refine HF2.out.mono ?_
 clear HF2
 rintro e w3 h3
 obtain ⟨a3,c3,rfl,hs3,-,hb3⟩ := str_post h3 HX.out.1 HX.out.2.1
 have HB3 := LH (HB2.out.trans (hb3.mono HB2.out.size))
 have HC3 := LH (HC2.out.trans (hb3.mono HC2.out.size))
 have HO3 := LH (own_stays HO2.out hb3)
 have hs2 := Sl.owned HO3.out HX.out.1 (by have := HX.out.2.1; have := HQ.out; omega)
 obtain ⟨S,hS⟩ : ∃ S,S = strB bs := ⟨_,rfl⟩
 obtain ⟨Z,hZ⟩ : ∃ Z,Z = strB so := ⟨_,rfl⟩
 rw [<- HQ.out] at hs3
 rw [<- HQ.out]
 have r1 := string_of w3 _ m c2 so Z hs2 (LH hZ)
 have r2 := string_of w3 a3 m c3 so Z hs3 (LH hZ)
 have HY := LH (Byts.own HO3.out HQ.out)
 have HG2 := LH hg2
 have HSS := LH hS
 have HBW := LH HB1.out.size
 clear h3 hs3 hb3 hs2 hS hZ hg2 HO3 HO2 HB2 HC2 HB1
 go_wp2_with fail
 go_loopw [8] (fun s wr => ∃ i : Nat,s = .int .i64 (i : Int) /\ i <= m /\ Hid (Byts wr g2 m) /\ Hid (Below w1.heap.size w1 wr) /\ Hid (Below w.heap.size w wr)) (fun s _ => m - (intOf s).toNat)
 case atStart => exact ⟨0,rfl,Nat.zero_le _,HY,HC3,HB3⟩
 case round =>
  obtain ⟨i,rfl,hi,KY,KC,KB⟩ := hrel
  clear r1 r2 HY HC3 HB3
  by_cases hlt : i < m
  ·obtain ⟨⟨u,hu⟩,hf⟩ := KY.out i hlt
   have b1 : (i : Int) < (m : Int) := by omega
   have KY2 := fun v : Int => LH (KY.out.set i v)
   have KC2 := fun v : Int => LH (KC.out.setCell (p := ⟨g2,i,none⟩) HG2.out (.int .u8 v))
   have KB2 := fun v : Int => LH (KB.out.setCell (p := ⟨g2,i,none⟩) (Nat.le_trans HBW.out HG2.out) (.int .u8 v))
   have hm9 : m <= 1000000 := by have := HX.out.2.1; have := HQ.out; omega
   clear KY KC KB
   go_wp2_with fail
   go_roundw
   case rel => exact ⟨i + 1,by go_num,by omega,KY2 _,KC2 _,KB2 _⟩
   case measure => simp [intOf]; omega
  ·obtain rfl : i = m := by omega
   have r3 := string_of wr (some ⟨g,0,none⟩) n k bs S (HI1.out.later KC.out) HSS
   have r4 := string_of wr a n c bs S (HS.out.later KB.out) HSS
   have HL := LH (tail11 KB.out HG.out)
   clear KY KC KB
   go_wp2_with fail
   refine HL.out.mono ?_
   rintro e w' ⟨rfl,hb⟩
   have HB := LH hb
   clear hb HL
   go_wp2
   go_ret
   exact ⟨rfl,HB.out⟩
end Go.Proofs.YtckbhciehmokdaaGreatDoor
