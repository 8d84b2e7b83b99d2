import Derived.Test.YtckbhciehmokdaaGreatDoorDliv
import Derived.Test.YtckbhciehmokdaaGreatDoorIfix
namespace Go.Proofs.YtckbhciehmokdaaGreatDoor
set_option maxRecDepth 100000
set_option maxHeartbeats 8000000
open Go.RowKit Go.Maps
theorem bytes_big (w : World) (a : Option Addr) (len cap : Nat) (bs : List Nat) (ty : TypeId) (hs : Sl w (.slice a len cap) bs) (hl : len <= 140737488351232) :
  ∃ g capn w',(Builtin.append_ #[22,22] ty #[.slice (some ⟨w.heap.size,0,none⟩) 0 0,.slice a len cap]).run Tryz.prog (w.alloc (.cells #[] 5)) = .ok (.slice (some ⟨g,0,none⟩) len capn) w' /\
   w'.ownsRow w.heap.size 5 1 (.slice (some ⟨g,0,none⟩) len capn) len (vb bs) /\ Below w.heap.size w w' := by
 obtain ⟨i0,hi,hz0,hz1,hz2⟩ := info_parts Tryz.infoU8
 have hb := below1 w (.cells #[] 5)
 have hown := World.ownsRow_lit (base := w.heap.size) (e := 5) (size := 1) w #[] 0 (Nat.le_refl _) (by unfold maxLen; omega) rfl
 have hs1 := hs.later hb
 obtain ⟨g,capn,w',hrun,hown',hgrow⟩ := run_append_mine (P := Tryz.prog) (w := w.alloc (.cells #[] 5)) w.heap.size 22 ty 5 i0 (.int .u8 0) 1 1 Tryz.underlying22 hi hz0 hz1 hz2 rfl (by decide)
  w.heap.size 0 0 [] hown a len cap (vb bs) (by rw [vb_length]; have := hs.len.1; omega) hs.len.2.2 (fun h0 => hs1.cells h0) (oneCell_vb _) (by unfold maxLen; omega) (by omega) (by simp)
 have HB : Below w.heap.size w w' := (hb.mono (Nat.le_refl _)).grown hgrow (by simp) (fun k e => by cases e; exact Nat.le_refl _)
 rw [Nat.zero_add,List.nil_append] at hown'
 rw [Nat.zero_add] at hrun
 exact ⟨g,capn,w',hrun,hown',HB⟩
theorem tail11 {w w1 : World} (hb : Below w.heap.size w w1) (hg : Glob w) : Calls Tryz.prog 13 #[] w1 fun e w' => e = .returned (.bool true) /\ Below w.heap.size w w' :=
 (lives10 w1 (hg.later hb)).mono fun _ _ h => ⟨h.1,hb.trans (h.2.mono hb.size)⟩
theorem stoS_one {x : List Nat} (h : x.length < 65535) : If.stoS x = If.blk 1 x := by unfold If.stoS If.chk2; rw [if_pos h]; rfl
theorem stoS_two {x : List Nat} (h : ¬ x.length < 65535) : If.stoS x = If.blk 0 (x.take 65535) ++ If.blk 1 (x.drop 65535) := by unfold If.stoS If.chk2; rw [if_neg h]; rfl
theorem rstored_large (a : Option Addr) (n c : Nat) (w : World) (hn : 65536 < n) : Calls Tryz.prog 12 #[.slice a n c] w fun e w' => e = .returned (.tuple #[.slice none 0 0,.int .i64 3]) /\ w = w' := by
 have h1 : (65536 : Int) < (n : Int) := by omega
 clear hn
 go_enter Tryz.func12,Tryz.ntmps12
 go_wp2
 refine bodyPost_ret (v := .tuple #[.slice none 0 0,.int .i64 3]) (by simp [results,Tryz.results12,go_sem]) rfl ?_
 exact ⟨rfl,rfl⟩
theorem q4_of (n : Nat) (hn : n <= 65535) : ∃ q1 q2 q3 q4 r : Nat,q1 = n % 256 /\ q2 = n / 256 /\ q3 = 255 - n % 256 /\ q4 = 255 - n / 256 /\ r = 65535 - n /\ (q1 < 256 /\ q2 < 256 /\ q3 < 256 /\ q4 < 256) /\
  (n : Int).tmod 256 = (q1 : Int) /\ (n : Int) / 256 = (q2 : Int) /\ (n : Int).tdiv 256 = (q2 : Int) /\ (65535 : Int) - (n : Int) = (r : Int) /\ IntKind.i64.wrap (65535 - (n : Int)) = (r : Int) /\ (r : Int).tmod 256 = (q3 : Int) /\ (r : Int) / 256 = (q4 : Int) /\ (r : Int).tdiv 256 = (q4 : Int) := by
 refine ⟨_,_,_,_,_,rfl,rfl,rfl,rfl,rfl,⟨by omega,by omega,by omega,by omega⟩,?_,?_,?_,?_,?_,?_,?_,?_⟩
 ·rw [Int.tmod_eq_emod_of_nonneg (by omega)]; omega
 ·omega
 ·rw [Int.tdiv_eq_ediv_of_nonneg (by omega)]; omega
 ·omega
 ·rw [IntWalk.i64_in _ (by omega)]; omega
 ·rw [Int.tmod_eq_emod_of_nonneg (by omega)]; omega
 ·omega
 ·rw [Int.tdiv_eq_ediv_of_nonneg (by omega)]; omega
theorem u8_same (q : Nat) (h : q < 256) : IntKind.u8.wrap (q : Int) = (q : Int) := by simp [IntKind.wrap,IntKind.signed,IntKind.bits]; omega
theorem rblk (w0 w : World) (hb0 : Below w0.heap.size w0 w) (v : Value) (k : Nat) (os : List Nat) (hown : w.ownsRow w0.heap.size 5 1 v k (vb os)) (f : Nat) (hf : f < 256) (n : Nat) (x : List Nat) (hn : n = x.length) (hn9 : n <= 65535) (a : Option Addr) (c : Nat) (hs : Sl w0 (.slice a n c) x) (hk : k <= 1000000) (q1 q2 q3 q4 : Nat) (g : q1 = n % 256 /\ q2 = n / 256 /\ q3 = 255 - n % 256 /\ q4 = 255 - n / 256) :
  ∃ (a1 : Option Addr) (c1 : Nat) (w1 : World) (a2 : Option Addr) (c2 : Nat) (w2 : World),
   (Builtin.append_ #[22,22] 22 #[v,.slice (some ⟨w.heap.size,0,none⟩) 5 5]).run Tryz.prog (w.alloc (.cells #[.int .u8 (f : Int),.int .u8 (q1 : Int),.int .u8 (q2 : Int),.int .u8 (q3 : Int),.int .u8 (q4 : Int)] 5)) = .ok (.slice a1 (k + 5) c1) w1 /\
   (Builtin.append_ #[22,22] 22 #[.slice a1 (k + 5) c1,.slice a n c]).run Tryz.prog w1 = .ok (.slice a2 (k + 5 + n) c2) w2 /\
   w2.ownsRow w0.heap.size 5 1 (.slice a2 (k + 5 + n) c2) (k + 5 + n) (vb (os ++ If.blk f x)) /\ Below w0.heap.size w0 w2 := by
 have hb := hb0.size
 obtain ⟨g1,g2,g3,g4⟩ := g
 have hz := below1 w (.cells #[.int .u8 (f : Int),.int .u8 (q1 : Int),.int .u8 (q2 : Int),.int .u8 (q3 : Int),.int .u8 (q4 : Int)] 5)
 have hs5 : Sl (w.alloc (.cells #[.int .u8 (f : Int),.int .u8 (q1 : Int),.int .u8 (q2 : Int),.int .u8 (q3 : Int),.int .u8 (q4 : Int)] 5)) (.slice (some ⟨w.heap.size,0,none⟩) 5 5) [f,q1,q2,q3,q4] := new_sl w _ (0,0) [f,q1,q2,q3,q4] 5 5 rfl (by intro y hy; simp at hy; omega) rfl (by decide)
 have ho1 := own_stays hown hz
 obtain ⟨v1,w1,hr1,ho2,hg1⟩ := app_any _ w0.heap.size k v os ho1 _ 5 5 _ 22 hs5 (by omega) (by omega) (Nat.le_trans hb hz.size)
 obtain ⟨a1,c1,rfl⟩ := own_slice ho2
 have hb1 : Below w0.heap.size w0 w1 := Below.grown (hb0.trans (hz.mono hb)) hg1 (Nat.le_trans hb hz.size) (fun q hq => (World.ownsRow.lt ho1 q hq).1)
 have hsx : Sl w1 (.slice a n c) x := by
  exact hs.later hb1
 obtain ⟨v2,w2,hr2,ho3,hg2⟩ := app_any w1 w0.heap.size (k + 5) _ _ ho2 a n c x 22 hsx (by omega) (by omega) hb1.size
 obtain ⟨a2,c2,rfl⟩ := own_slice ho3
 refine ⟨a1,c1,w1,a2,c2,w2,hr1,hr2,?_,Below.grown hb1 hg2 hb1.size (fun q hq => (World.ownsRow.lt ho2 q hq).1)⟩
 have e : os ++ If.blk f x = os ++ [f,q1,q2,q3,q4] ++ x := by unfold If.blk; rw [List.append_assoc,<- hn,g1,g2,g3,g4]
 rw [e]
 exact ho3
theorem rstored_one (a : Option Addr) (n c : Nat) (x : List Nat) (w : World) (hs : Sl w (.slice a n c) x) (hcp : n <= c) (hn : n < 65535) : Calls Tryz.prog 12 #[.slice a n c] w (StrPost w (If.stoS x)) := by
 have hl := hs.len
 have hx : x.length < 65535 := by omega
 have h1 : decide ((65536 : Int) < (n : Int)) = false := by simp; omega
 have h1' : decide (65536 < n) = false := by simp; omega
 have d1 : decide ((65535 : Int) <= (n : Int)) = false := by simp; omega
 have d1' : decide (65535 <= n) = false := by simp; omega
 have d2 : decide ((n : Int) ≥ 65535) = false := by simp; omega
 have b1 : (n : Int) <= (c : Int) := by omega
 obtain ⟨q1,q2,q3,q4,r,g1,g2,g3,g4,g5,⟨l1,l2,l3,l4⟩,m1,m2,m3,m4,m5,m6,m7,m8⟩ := q4_of n (by omega)
 have u1 := u8_same q1 l1
 have u2 := u8_same q2 l2
 have u3 := u8_same q3 l3
 have u4 := u8_same q4 l4
 obtain ⟨a1,c1,w1,a2,c2,w2,hr1,hr2,ho,hb⟩ := rblk w w (Below.refl _ _) (.slice none 0 0) 0 [] ⟨rfl,Or.inl ⟨rfl,rfl⟩⟩ 1 (by decide) n x hl.1 (by omega) a c hs (by omega) q1 q2 q3 q4 ⟨g1,g2,g3,g4⟩
 rw [Nat.zero_add] at hr1 hr2 ho
 rw [List.nil_append,<- stoS_one hx] at ho
 have el : (If.stoS x).length = 5 + n := by rw [stoS_one hx,If.blk_length,<- hl.1]
 have HR1 := LH hr1
 have HR2 := LH hr2
 have HO : Hid (w2.ownsRow w.heap.size 5 1 (.slice a2 (5 + n) c2) (If.stoS x).length (vb (If.stoS x))) := by rw [el]; exact ho
 have HB := LH hb
 have HNN := LH hl.2.2
 have HG := LH (And.intro g1 (And.intro g2 (And.intro g3 g4)))
 clear hs hcp hn g1 g2 g3 g4 g5 hr1 hr2 ho hb hl hx el
 cases a with
 | none =>
  obtain ⟨rfl,rfl⟩ := HNN.out rfl
  obtain ⟨g1,g2,g3,g4⟩ := HG.out
  obtain rfl : q1 = 0 := g1
  obtain rfl : q2 = 0 := g2
  obtain rfl : q3 = 255 := g3
  obtain rfl : q4 = 255 := g4
  clear HG m1 m2 m3 m4 m5 m6 m7 m8 u1 u2 u3 u4 l1 l2 l3 l4
  go_enter Tryz.func12,Tryz.ntmps12
  go_wp2_with fail
  refine wp_loop_rounds 1 ?_
  rw [rounds_succ]
  go_wp2_with (at_builtin; (first | (refine wpList_append_is rfl (.tmp 14) (.tmp 30) 22 rfl _ _ _ _ rfl rfl HR1.out ?_) | (refine wpList_append_is rfl (.tmp 32) (.tmp 35) 22 rfl _ _ _ _ rfl rfl HR2.out ?_)))
  all_goals refine bodyPost_ret (v := .tuple #[.slice a2 (5 + 0) c2,.int .i64 0]) (by simp [results,Tryz.results12,go_sem]) rfl ⟨_,rfl,HO.out,HB.out⟩
 | some p =>
  clear HNN HG
  go_enter Tryz.func12,Tryz.ntmps12
  go_wp2_with fail
  refine wp_loop_rounds 1 ?_
  rw [rounds_succ]
  go_wp2_with (at_builtin; (first | (refine wpList_append_is rfl (.tmp 14) (.tmp 30) 22 rfl _ _ _ _ rfl rfl HR1.out ?_) | (refine wpList_append_is rfl (.tmp 32) (.tmp 35) 22 rfl _ _ _ _ rfl rfl HR2.out ?_)))
  all_goals refine bodyPost_ret (v := .tuple #[.slice a2 (5 + n) c2,.int .i64 0]) (by simp [results,Tryz.results12,go_sem]) rfl ⟨_,rfl,HO.out,HB.out⟩
theorem sl_drop {w : World} {b off n c : Nat} {x : List Nat} (h : Sl w (.slice (some ⟨b,off,none⟩) n c) x) (k : Nat) (hk : k <= n) : Sl w (.slice (some ⟨b,off + k,none⟩) (n - k) (c - k)) (x.drop k) := by
 have hl := h.len.1
 obtain ⟨a',len',cap',he,h1,h2,h3,h4,h5⟩ := h
 injection he with e1 e2 e3
 subst e2 e3
 refine ⟨_,n - k,c - k,rfl,by rw [List.length_drop]; omega,by omega,fun h => by simp at h,fun z hz => h4 z (List.mem_of_mem_drop hz),fun h0 => ?_⟩
 obtain ⟨b',off',e,hlt,hc⟩ := h5 (by omega)
 rw [e] at e1
 cases e1
 refine ⟨b,off + k,rfl,hlt,fun i hi => ?_⟩
 rw [Nat.add_assoc,hc (k + i) (by omega),List.getElem?_drop]
theorem rstored_65535a (b off c : Nat) (x : List Nat) (w : World) (hs : Sl w (.slice (some ⟨b,off,none⟩) 65535 c) x) (hcp : 65535 <= c) (hcn : ¬ c = 65535) : Calls Tryz.prog 12 #[.slice (some ⟨b,off,none⟩) 65535 c] w (StrPost w (If.stoS x)) := by
 have hl := hs.len.1
 have i1 : (65535 : Int) <= ((c : Nat) : Int) := by omega
 have i3 : 65535 <= c := by omega
 have hs2 : Sl w (.slice (some ⟨b,off + 65535,none⟩) 0 (c - 65535)) (x.drop 65535) := by
  exact sl_drop hs 65535 (by decide)
 have hne : ¬ c = 65535 := hcn
 have i2 : (0 : Int) <= (((c - 65535) : Nat) : Int) := by omega
 obtain ⟨a1,c1,w1,a2,c2,w2,hr1,hr2,ho,hb⟩ := rblk w w (Below.refl _ _) (.slice none 0 0) 0 [] ⟨rfl,Or.inl ⟨rfl,rfl⟩⟩ 0 (by decide) 65535 (x.take 65535) (by rw [List.length_take]; omega) (by decide) (some ⟨b,off,none⟩) c (sl_take hs 65535 (by decide)) (by omega) 255 255 0 0 (by decide)
 obtain ⟨K,hK⟩ : ∃ K,K = 0 + 5 + 65535 := ⟨_,rfl⟩
 rw [<- hK] at hr2 ho
 rw [Nat.zero_add] at hr1 hr2
 obtain ⟨a3,c3,w3,a4,c4,w4,hr3,hr4,ho4,hb4⟩ := rblk w w2 hb _ K _ ho 1 (by decide) 0 (x.drop 65535) (by rw [List.length_drop]; omega) (by decide) (some ⟨b,off + 65535,none⟩) (c - 65535) hs2 (by omega) 0 0 255 255 (by decide)
 have est : ([] ++ If.blk 0 (x.take 65535)) ++ If.blk 1 (x.drop 65535) = If.stoS x := by rw [stoS_two (by omega)]; rfl
 rw [est] at ho4
 rw [Nat.add_zero] at hr4 ho4
 obtain ⟨K2,hK2⟩ : ∃ Z,Z = K + 5 := ⟨_,rfl⟩
 rw [<- hK2] at hr3 hr4 ho4
 have el : (If.stoS x).length = K2 := by rw [hK2,hK,<- est,List.length_append,List.length_append,If.blk_length,If.blk_length,List.length_take,List.length_drop,<- hl]; rfl
 have HR1 := LH hr1
 have HR2 := LH hr2
 have HR3 := LH hr3
 have HR4 := LH hr4
 have HO : Hid (w4.ownsRow w.heap.size 5 1 (.slice a4 K2 c4) (If.stoS x).length (vb (If.stoS x))) := by rw [el]; exact ho4
 have HB := LH hb4
 clear hs hs2 hcp hcn hl hr1 hr2 hr3 hr4 ho ho4 hb hb4 est el hK hK2
 go_enter Tryz.func12,Tryz.ntmps12
 go_wp2_with fail
 refine wp_loop_rounds 2 ?_
 rw [rounds_succ]
 go_upto_region 8 with (at_builtin; refine wpList_append_is rfl (.tmp 14) (.tmp 30) 22 rfl _ _ _ _ rfl rfl HR1.out ?_)
 go_upto_region 9 with (at_builtin; refine wpList_append_is rfl (.tmp 32) (.tmp 35) 22 rfl _ _ _ _ rfl rfl HR2.out ?_)
 go_upto_region 10 with fail
 clear i1 i3 hne
 go_wp2_with fail
 rw [rounds_succ]
 go_upto_region 8 with (at_builtin; refine wpList_append_is rfl (.tmp 14) (.tmp 30) 22 rfl _ _ _ _ rfl rfl HR3.out ?_)
 go_upto_region 9 with (at_builtin; refine wpList_append_is rfl (.tmp 32) (.tmp 35) 22 rfl _ _ _ _ rfl rfl HR4.out ?_)
 go_wp2_with fail
 all_goals refine bodyPost_ret (v := .tuple #[.slice a4 K2 c4,.int .i64 0]) (by simp [results,Tryz.results12,go_sem]) rfl ⟨_,rfl,HO.out,HB.out⟩
theorem rstored_65535b (b off : Nat) (x : List Nat) (w : World) (hs : Sl w (.slice (some ⟨b,off,none⟩) 65535 65535) x) : Calls Tryz.prog 12 #[.slice (some ⟨b,off,none⟩) 65535 65535] w (StrPost w (If.stoS x)) := by
 have hl := hs.len.1
 have hs2 : Sl w (.slice (some ⟨b,off,none⟩) 0 0) (x.drop 65535) := by
  have e : x.drop 65535 = [] := List.eq_nil_of_length_eq_zero (by rw [List.length_drop]; omega)
  rw [e]
  exact ⟨some ⟨b,off,none⟩,0,_,rfl,rfl,Nat.zero_le _,fun h => (by simp at h),fun z hz => (by simp at hz),fun h => absurd h (Nat.lt_irrefl 0)⟩
 obtain ⟨a1,c1,w1,a2,c2,w2,hr1,hr2,ho,hb⟩ := rblk w w (Below.refl _ _) (.slice none 0 0) 0 [] ⟨rfl,Or.inl ⟨rfl,rfl⟩⟩ 0 (by decide) 65535 (x.take 65535) (by rw [List.length_take]; omega) (by decide) (some ⟨b,off,none⟩) 65535 (sl_take hs 65535 (by decide)) (by omega) 255 255 0 0 (by decide)
 obtain ⟨K,hK⟩ : ∃ K,K = 0 + 5 + 65535 := ⟨_,rfl⟩
 rw [<- hK] at hr2 ho
 rw [Nat.zero_add] at hr1 hr2
 obtain ⟨a3,c3,w3,a4,c4,w4,hr3,hr4,ho4,hb4⟩ := rblk w w2 hb _ K _ ho 1 (by decide) 0 (x.drop 65535) (by rw [List.length_drop]; omega) (by decide) (some ⟨b,off,none⟩) 0 hs2 (by omega) 0 0 255 255 (by decide)
 have est : ([] ++ If.blk 0 (x.take 65535)) ++ If.blk 1 (x.drop 65535) = If.stoS x := by rw [stoS_two (by omega)]; rfl
 rw [est] at ho4
 rw [Nat.add_zero] at hr4 ho4
 obtain ⟨K2,hK2⟩ : ∃ Z,Z = K + 5 := ⟨_,rfl⟩
 rw [<- hK2] at hr3 hr4 ho4
 have el : (If.stoS x).length = K2 := by rw [hK2,hK,<- est,List.length_append,List.length_append,If.blk_length,If.blk_length,List.length_take,List.length_drop,<- hl]; rfl
 have HR1 := LH hr1
 have HR2 := LH hr2
 have HR3 := LH hr3
 have HR4 := LH hr4
 have HO : Hid (w4.ownsRow w.heap.size 5 1 (.slice a4 K2 c4) (If.stoS x).length (vb (If.stoS x))) := by rw [el]; exact ho4
 have HB := LH hb4
 clear hs hs2 hl hr1 hr2 hr3 hr4 ho ho4 hb hb4 est el hK hK2
 go_enter Tryz.func12,Tryz.ntmps12
 go_wp2_with fail
 refine wp_loop_rounds 2 ?_
 rw [rounds_succ]
 go_upto_region 8 with (at_builtin; refine wpList_append_is rfl (.tmp 14) (.tmp 30) 22 rfl _ _ _ _ rfl rfl HR1.out ?_)
 go_upto_region 9 with (at_builtin; refine wpList_append_is rfl (.tmp 32) (.tmp 35) 22 rfl _ _ _ _ rfl rfl HR2.out ?_)
 go_upto_region 10 with fail
 go_wp2_with fail
 rw [rounds_succ]
 go_upto_region 8 with (at_builtin; refine wpList_append_is rfl (.tmp 14) (.tmp 30) 22 rfl _ _ _ _ rfl rfl HR3.out ?_)
 go_upto_region 9 with (at_builtin; refine wpList_append_is rfl (.tmp 32) (.tmp 35) 22 rfl _ _ _ _ rfl rfl HR4.out ?_)
 go_wp2_with fail
 all_goals refine bodyPost_ret (v := .tuple #[.slice a4 K2 c4,.int .i64 0]) (by simp [results,Tryz.results12,go_sem]) rfl ⟨_,rfl,HO.out,HB.out⟩
theorem rstored_65536 (b off d : Nat) (x : List Nat) (w : World) (hs : Sl w (.slice (some ⟨b,off,none⟩) 65536 (d + 65535)) x) (hcp : 1 <= d) : Calls Tryz.prog 12 #[.slice (some ⟨b,off,none⟩) 65536 (d + 65535)] w (StrPost w (If.stoS x)) := by
 have hl := hs.len.1
 have i1 : (65535 : Int) <= (((d + 65535) : Nat) : Int) := by omega
 have i3 : 65535 <= (d + 65535) := by omega
 have hs2 : Sl w (.slice (some ⟨b,off + 65535,none⟩) 1 d) (x.drop 65535) := by
  have h := sl_drop hs 65535 (by decide)
  rwa [show d + 65535 - 65535 = d by omega] at h
 have hne : ¬ d + 65535 = 65535 := by omega
 have i2 : (1 : Int) <= ((d : Nat) : Int) := by omega
 obtain ⟨a1,c1,w1,a2,c2,w2,hr1,hr2,ho,hb⟩ := rblk w w (Below.refl _ _) (.slice none 0 0) 0 [] ⟨rfl,Or.inl ⟨rfl,rfl⟩⟩ 0 (by decide) 65535 (x.take 65535) (by rw [List.length_take]; omega) (by decide) (some ⟨b,off,none⟩) (d + 65535) (sl_take hs 65535 (by decide)) (by omega) 255 255 0 0 (by decide)
 obtain ⟨K,hK⟩ : ∃ K,K = 0 + 5 + 65535 := ⟨_,rfl⟩
 rw [<- hK] at hr2 ho
 rw [Nat.zero_add] at hr1 hr2
 obtain ⟨a3,c3,w3,a4,c4,w4,hr3,hr4,ho4,hb4⟩ := rblk w w2 hb _ K _ ho 1 (by decide) 1 (x.drop 65535) (by rw [List.length_drop]; omega) (by decide) (some ⟨b,off + 65535,none⟩) d hs2 (by omega) 1 0 254 255 (by decide)
 have est : ([] ++ If.blk 0 (x.take 65535)) ++ If.blk 1 (x.drop 65535) = If.stoS x := by rw [stoS_two (by omega)]; rfl
 rw [est] at ho4
 obtain ⟨K2,hK2⟩ : ∃ Z,Z = K + 5 + 1 := ⟨_,rfl⟩
 rw [<- hK2] at hr4 ho4
 have el : (If.stoS x).length = K2 := by rw [hK2,hK,<- est,List.length_append,List.length_append,If.blk_length,If.blk_length,List.length_take,List.length_drop,<- hl]; rfl
 have HR1 := LH hr1
 have HR2 := LH hr2
 have HR3 := LH hr3
 have HR4 := LH hr4
 have HO : Hid (w4.ownsRow w.heap.size 5 1 (.slice a4 K2 c4) (If.stoS x).length (vb (If.stoS x))) := by rw [el]; exact ho4
 have HB := LH hb4
 clear hs hs2 hcp hl hr1 hr2 hr3 hr4 ho ho4 hb hb4 est el hK hK2
 go_enter Tryz.func12,Tryz.ntmps12
 go_wp2_with fail
 refine wp_loop_rounds 2 ?_
 rw [rounds_succ]
 go_upto_region 8 with (at_builtin; refine wpList_append_is rfl (.tmp 14) (.tmp 30) 22 rfl _ _ _ _ rfl rfl HR1.out ?_)
 go_upto_region 9 with (at_builtin; refine wpList_append_is rfl (.tmp 32) (.tmp 35) 22 rfl _ _ _ _ rfl rfl HR2.out ?_)
 go_upto_region 10 with fail
 clear i1 i3 hne
 go_wp2_with fail
 rw [rounds_succ]
 go_upto_region 8 with (at_builtin; refine wpList_append_is rfl (.tmp 14) (.tmp 30) 22 rfl _ _ _ _ rfl rfl HR3.out ?_)
 go_upto_region 9 with (at_builtin; refine wpList_append_is rfl (.tmp 32) (.tmp 35) 22 rfl _ _ _ _ rfl rfl HR4.out ?_)
 clear i2
 go_wp2_with fail
 all_goals refine bodyPost_ret (v := .tuple #[.slice a4 K2 c4,.int .i64 0]) (by simp [results,Tryz.results12,go_sem]) rfl ⟨_,rfl,HO.out,HB.out⟩
theorem rstored_ok (a : Option Addr) (n c : Nat) (x : List Nat) (w : World) (hs : Sl w (.slice a n c) x) (hcp : n <= c) (hn : n <= 65536) : Calls Tryz.prog 12 #[.slice a n c] w (StrPost w (If.stoS x)) := by
 by_cases h : n < 65535
 ·exact rstored_one a n c x w hs hcp h
 ·obtain ⟨b,off,rfl,_,_,_,_⟩ := hs.at 0 (by omega)
  by_cases h2 : n = 65535
  ·subst h2
   by_cases h3 : c = 65535
   ·subst h3; exact rstored_65535b b off x w hs
   ·exact rstored_65535a b off c x w hs hcp h3
  ·obtain rfl : n = 65536 := by omega
   obtain ⟨d,rfl⟩ : ∃ d,c = d + 65535 := ⟨c - 65535,by omega⟩
   exact rstored_65536 b off d x w hs (by omega)
end Go.Proofs.YtckbhciehmokdaaGreatDoor
