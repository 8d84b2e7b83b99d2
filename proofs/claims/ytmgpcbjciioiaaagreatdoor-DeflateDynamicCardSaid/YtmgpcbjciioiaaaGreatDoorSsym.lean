import Derived.Test.YtmgpcbjciioiaaaGreatDoorKclone
import Derived.Deep.QuietTactic
namespace Go.Proofs.YtmgpcbjciioiaaaGreatDoor
set_option maxRecDepth 100000
set_option maxHeartbeats 8000000
section
open Go.RowKit
theorem shl_is (x b z : Nat) (hx : x <= 100000) (hb : b <= 20) (hz : z = x * 2 ^ b) : Value.int .i64 (wrap64 ((x : Int) * 2 ^ b)) = .int .i64 (z : Int) := by
 have h : (2 : Nat) ^ b <= 2 ^ 20 := Nat.pow_le_pow_right (by omega) hb
 have e : (x : Int) * 2 ^ b = (z : Int) := by rw [hz]; simp
 have h2 : z <= 100000 * 2 ^ 20 := by rw [hz]; exact Nat.mul_le_mul hx h
 rw [e]
 congr 1
 unfold wrap64
 omega
theorem pow_is (b : Nat) (hb : b <= 20) : Value.int .i64 (wrap64 (2 ^ b)) = .int .i64 ((2 ^ b : Nat) : Int) := by
 have h : (2 : Nat) ^ b <= 2 ^ 20 := Nat.pow_le_pow_right (by omega) hb
 have e : (2 : Int) ^ b = ((2 ^ b : Nat) : Int) := by simp
 rw [e]
 generalize (2 : Nat) ^ b = x at h
 congr 1
 unfold wrap64
 omega
end
section
open Go.RowKit
theorem i64_and_nat (a b : Nat) (ha : a < 9223372036854775808) (hb : b < 9223372036854775808) : bits .and .i64 (a : Int) (b : Int) = ((a &&& b : Nat) : Int) := by
 have hx : a &&& b < 2 ^ 63 := Nat.and_lt_two_pow _ (by omega)
 have e1 : (BitVec.ofInt 64 (a : Int)).toNat = a := by rw [BitVec.toNat_ofInt]; omega
 have e2 : (BitVec.ofInt 64 (b : Int)).toNat = b := by rw [BitVec.toNat_ofInt]; omega
 show IntKind.i64.wrap ((BitVec.ofInt 64 (a : Int) &&& BitVec.ofInt 64 (b : Int)).toNat : Int) = _
 rw [BitVec.toNat_and,e1,e2,IntKind.wrap_i64]
 omega
theorem sym_val (a p g m j k : Nat) (hk : p * g + m / 2 ^ j <= 1000) (ha : a <= 1000) (h : p * g + m / 2 ^ j = k) : wrap64 ((a : Int) + (p : Int) * (g : Int) + (m : Int) / 2 ^ j) = ((a + k : Nat) : Int) := by
 have e : (a : Int) + (p : Int) * (g : Int) + (m : Int) / 2 ^ j = ((a + (p * g + m / 2 ^ j) : Nat) : Int) := by push_cast; omega
 rw [e,h]
 unfold wrap64
 omega
theorem sym_and (m j : Nat) (hj : j <= 20) (hm : m <= 4294967295) : bits BinOp.and IntKind.i64 (m : Int) (wrap64 (wrap64 (2 ^ j) - 1)) = ((m % 2 ^ j : Nat) : Int) := by
 have h : (2 : Nat) ^ j <= 2 ^ 20 := Nat.pow_le_pow_right (by omega) hj
 have h0 : 0 < (2 : Nat) ^ j := Nat.pow_pos (by omega)
 have h1 := pow_is j hj
 injection h1 with _ h2
 rw [h2,show wrap64 (((2 ^ j : Nat) : Int) - 1) = ((2 ^ j - 1 : Nat) : Int) from by generalize (2 : Nat) ^ j = x at h h0; unfold wrap64; omega,i64_and_nat _ _ (by omega) (by omega),Nat.and_two_pow_sub_one_eq_mod]
def Three (x y c : Int) (w : World) (e : Ending) (w' : World) : Prop := e = .returned (.tuple #[.int .i64 x,.int .i64 y,.int .i64 c]) /\ Below w.heap.size w w'
theorem lsym_loop (n : Nat) (w : World) (h3 : 3 <= n) (hn : n ≠ 258) (hmax : n <= 9223372036854775807) :
  Calls Tryz.prog 105 #[scl 257 3 4 7,.int .i64 (n : Int)] w fun e w' => (n <= 257 /\ Three ((257 + Sy.lk n : Nat) : Int) ((n - Sy.at' Sy.lf (Sy.lk n) : Nat) : Int) 0 w e w') ∨ (259 <= n /\ Three 0 0 2 w e w') := by
 have HL := fun w => lengths_is w
 unfold scl at HL ⊢
 have H := LH HL
 clear HL
 have x0 := fun x => (boxed_cells w 257 3 4 7 x).1
 have x1 := fun x => (boxed_cells w 257 3 4 7 x).2.1
 have x2 := fun x => (boxed_cells w 257 3 4 7 x).2.2.1
 have x3 := fun x => (boxed_cells w 257 3 4 7 x).2.2.2
 have d1 : decide ((n : Int) < 3) = false := decide_eq_false (by omega)
 have d2 : ((n : Int) == 258) = false := by rw [beq_eq_false_iff_ne]; omega
 have d3 : ((n : Int) - 3) = ((n - 3 : Nat) : Int) := by omega
 go_enter Tryz.func105,Tryz.ntmps105
 go_wp2_with fail
 refine region_made (w.heap.size + 1) (boxed w 257 3 4 7) (by kernel_rfl) (by kernel_rfl) (Below.refl _ _) ?_
 repeat (go_big_quiet_step (exact made_call _ (boxed_le _ _ _ _ _) (H.out _)))
 refine wpQuiet_nil fun x => ?_
 have HX : Hid (Bx w 257 3 4 7 x.w) := LH x.h
 go_wp2_with fail
 go_quiet (fail)
 go_wp2_with fail
 go_loopw [7,8,32] (fun s7 s8 s32 wr => ∃ g m : Nat,g <= 7 /\ s32 = .int .i64 (g : Int) /\ s7 = .int .i64 ((257 + 4 * g : Nat) : Int) /\ s8 = .int .i64 (m : Int) /\ Hid (Sy.start 3 4 g + m = n) /\ Hid (Bx w 257 3 4 7 wr)) (fun _ _ s _ => 7 - (intOf s).toNat)
 case atStart => exact ⟨0,n - 3,by omega,rfl,by go_num,by go_num,(show 3 + (n - 3) = n by omega),HX.out.drew _⟩
 case round =>
  obtain ⟨g,m,hg,rfl,rfl,rfl,HU,HB⟩ := hrel
  obtain ⟨y0,y1,y2,y3⟩ := HB.out.cells
  have hm9 : m <= 9223372036854775807 := by have := HU.out; omega
  by_cases hlt : g < 7
  ·have hu2 := Sy.lf_start (g + 1) (by omega)
   rw [Sy.start_succ] at hu2
   have HG := LH (fun w => beside_is g w (by omega))
   obtain ⟨j,hj⟩ : ∃ j,j = g - 1 := ⟨_,rfl⟩
   rw [<- hj] at HG hu2
   obtain ⟨t,ht⟩ : ∃ t,t = 4 * 2 ^ j := ⟨_,rfl⟩
   have hts : Value.int .i64 (wrap64 (4 * 2 ^ j)) = .int .i64 (t : Int) := shl_is 4 j t (by omega) (by omega) ht
   rw [<- ht] at hu2
   have hmin : min j 64 = j := by omega
   have HT := LH ht
   have HJ := LH hj
   clear ht hj
   by_cases hm : m < t
   ·go_wp2_with fail
    refine (HG.out _).mono ?_
    rintro e w3 ⟨rfl,rfl⟩
    go_wp2_with fail
    go_quiet (fail)
    go_wp2_with fail
    go_ret3
    have hg := Sy.l_group n g hlt (by have := HT.out; have := HJ.out; have := HU.out; have := Sy.lf_start (g + 1) (by omega); rw [Sy.start_succ,<- HJ.out,<- HT.out] at this; omega) (by have := HU.out; omega) (by have := HU.out; rw [<- HJ.out,<- HT.out]; omega)
    rw [<- HJ.out,show n - Sy.start 3 4 g = m from by have := HU.out; omega] at hg
    refine .inl ⟨by have := HU.out; omega,?_,HB.out.below.trans (below_drewN (Below.refl _ _) _)⟩
    have v1 : wrap64 (257 + 4 * (g : Int) + (m : Int) / 2 ^ j) = ((257 + Sy.lk n : Nat) : Int) := sym_val 257 4 g m j _ (by have := hg.1; have := (Sy.lk_has n h3).1; omega) (by omega) hg.1
    have v2 := sym_and m j (by have := HJ.out; omega) (by omega)
    rw [hg.2] at v2
    show Ending.returned (.tuple #[.int .i64 (wrap64 (257 + 4 * (g : Int) + (m : Int) / 2 ^ j)),.int .i64 (bits BinOp.and IntKind.i64 (m : Int) (wrap64 (wrap64 (2 ^ j) - 1))),.int .i64 0]) = _
    rw [v1,v2]
   ·have d4 : ((m : Int) - (t : Int)) = ((m - t : Nat) : Int) := by omega
    go_wp2_with fail
    refine (HG.out _).mono ?_
    rintro e w3 ⟨rfl,rfl⟩
    go_wp2_with fail
    go_quiet (fail)
    go_wp2_with fail
    go_roundw
    case rel => exact ⟨g + 1,m - t,by omega,by go_num,by go_num,by go_num,(by show _ = _; have := HU.out; have := HT.out; rw [Sy.start_succ,<- HJ.out,<- HT.out]; omega),HB.out.drew _⟩
    case measure => simp [intOf]; omega
  ·obtain rfl : g = 7 := by omega
   go_wp2_with fail
   go_ret3
   exact .inr ⟨by have := HU.out; rw [Sy.lf_end] at this; omega,rfl,HB.out.below⟩
theorem dsym_loop (n : Nat) (w : World) (h3 : 1 <= n) (hmax : n <= 9223372036854775807) :
  Calls Tryz.prog 105 #[scl 0 1 2 15,.int .i64 (n : Int)] w fun e w' => (n <= 32768 /\ Three ((Sy.dk n : Nat) : Int) ((n - Sy.at' Sy.df (Sy.dk n) : Nat) : Int) 0 w e w') ∨ (32769 <= n /\ Three 0 0 2 w e w') := by
 have HL := fun w => lengths_is w
 unfold scl at HL ⊢
 have H := LH HL
 clear HL
 have x0 := fun x => (boxed_cells w 0 1 2 15 x).1
 have x1 := fun x => (boxed_cells w 0 1 2 15 x).2.1
 have x2 := fun x => (boxed_cells w 0 1 2 15 x).2.2.1
 have x3 := fun x => (boxed_cells w 0 1 2 15 x).2.2.2
 have d1 : decide ((n : Int) < 1) = false := decide_eq_false (by omega)
 have d3 : ((n : Int) - 1) = ((n - 1 : Nat) : Int) := by omega
 go_enter Tryz.func105,Tryz.ntmps105
 go_wp2_with fail
 refine region_made (w.heap.size + 1) (boxed w 0 1 2 15) (by kernel_rfl) (by kernel_rfl) (Below.refl _ _) ?_
 repeat (go_big_quiet_step (exact made_call _ (boxed_le _ _ _ _ _) (H.out _)))
 refine wpQuiet_nil fun x => ?_
 have HX : Hid (Bx w 0 1 2 15 x.w) := LH x.h
 go_wp2_with fail
 go_quiet (fail)
 go_wp2_with fail
 go_loopw [7,8,32] (fun s7 s8 s32 wr => ∃ g m : Nat,g <= 15 /\ s32 = .int .i64 (g : Int) /\ s7 = .int .i64 ((2 * g : Nat) : Int) /\ s8 = .int .i64 (m : Int) /\ Hid (Sy.start 1 2 g + m = n) /\ Hid (Bx w 0 1 2 15 wr)) (fun _ _ s _ => 15 - (intOf s).toNat)
 case atStart => exact ⟨0,n - 1,by omega,rfl,by go_num,by go_num,(show 1 + (n - 1) = n by omega),HX.out.drew _⟩
 case round =>
  obtain ⟨g,m,hg,rfl,rfl,rfl,HU,HB⟩ := hrel
  obtain ⟨y0,y1,y2,y3⟩ := HB.out.cells
  have hm9 : m <= 9223372036854775807 := by have := HU.out; omega
  by_cases hlt : g < 15
  ·have hu2 := Sy.df_start (g + 1) (by omega)
   rw [Sy.start_succ] at hu2
   have HG := LH (fun w => beside_is g w (by omega))
   obtain ⟨j,hj⟩ : ∃ j,j = g - 1 := ⟨_,rfl⟩
   rw [<- hj] at HG hu2
   obtain ⟨t,ht⟩ : ∃ t,t = 2 * 2 ^ j := ⟨_,rfl⟩
   have hts : Value.int .i64 (wrap64 (2 * 2 ^ j)) = .int .i64 (t : Int) := shl_is 2 j t (by omega) (by omega) ht
   rw [<- ht] at hu2
   have hmin : min j 64 = j := by omega
   have HT := LH ht
   have HJ := LH hj
   clear ht hj
   by_cases hm : m < t
   ·go_wp2_with fail
    refine (HG.out _).mono ?_
    rintro e w3 ⟨rfl,rfl⟩
    go_wp2_with fail
    go_quiet (fail)
    go_wp2_with fail
    go_ret3
    have hg := Sy.d_group n g hlt (by have := HU.out; omega) (by have := HU.out; rw [<- HJ.out,<- HT.out]; omega)
    rw [<- HJ.out,show n - Sy.start 1 2 g = m from by have := HU.out; omega] at hg
    refine .inl ⟨by have := HU.out; omega,?_,HB.out.below.trans (below_drewN (Below.refl _ _) _)⟩
    have v1 : wrap64 (2 * (g : Int) + (m : Int) / 2 ^ j) = ((Sy.dk n : Nat) : Int) := by have := sym_val 0 2 g m j _ (by have := hg.1; have := (Sy.dk_has n h3).1; omega) (by omega) hg.1; simpa using this
    have v2 := sym_and m j (by have := HJ.out; omega) (by omega)
    rw [hg.2] at v2
    show Ending.returned (.tuple #[.int .i64 (wrap64 (2 * (g : Int) + (m : Int) / 2 ^ j)),.int .i64 (bits BinOp.and IntKind.i64 (m : Int) (wrap64 (wrap64 (2 ^ j) - 1))),.int .i64 0]) = _
    rw [v1,v2]
   ·have d4 : ((m : Int) - (t : Int)) = ((m - t : Nat) : Int) := by omega
    go_wp2_with fail
    refine (HG.out _).mono ?_
    rintro e w3 ⟨rfl,rfl⟩
    go_wp2_with fail
    go_quiet (fail)
    go_wp2_with fail
    go_roundw
    case rel => exact ⟨g + 1,m - t,by omega,by go_num,by go_num,by go_num,(by show _ = _; have := HU.out; have := HT.out; rw [Sy.start_succ,<- HJ.out,<- HT.out]; omega),HB.out.drew _⟩
    case measure => simp [intOf]; omega
  ·obtain rfl : g = 15 := by omega
   go_wp2_with fail
   go_ret3
   exact .inr ⟨by have := HU.out; rw [Sy.df_end] at this; omega,rfl,HB.out.below⟩
theorem lsym_less (n : Int) (w : World) (h : n < 3) : Calls Tryz.prog 105 #[scl 257 3 4 7,.int .i64 n] w (Three 0 0 2 w) := by
 have d1 : decide (n < 3) = true := decide_eq_true h
 unfold scl
 clear h
 go_enter Tryz.func105,Tryz.ntmps105
 go_wp2_with fail
 go_ret3
 exact ⟨rfl,below1 w _⟩
theorem dsym_less (n : Int) (w : World) (h : n < 1) : Calls Tryz.prog 105 #[scl 0 1 2 15,.int .i64 n] w (Three 0 0 2 w) := by
 have d1 : decide (n < 1) = true := decide_eq_true h
 unfold scl
 clear h
 go_enter Tryz.func105,Tryz.ntmps105
 go_wp2_with fail
 go_ret3
 exact ⟨rfl,below1 w _⟩
theorem lsym_most (w : World) : Calls Tryz.prog 105 #[scl 257 3 4 7,.int .i64 258] w (Three 285 0 0 w) := by
 have HL := fun w => lengths_is w
 have HE := fun w => lend_is w
 unfold scl at HL HE ⊢
 have H := LH HL
 have H2 := LH HE
 clear HL HE
 have x0 := fun x => (boxed_cells w 257 3 4 7 x).1
 have x1 := fun x => (boxed_cells w 257 3 4 7 x).2.1
 have x2 := fun x => (boxed_cells w 257 3 4 7 x).2.2.1
 have x3 := fun x => (boxed_cells w 257 3 4 7 x).2.2.2
 go_enter Tryz.func105,Tryz.ntmps105
 go_wp2_with fail
 refine region_made (w.heap.size + 1) (boxed w 257 3 4 7) (by kernel_rfl) (by kernel_rfl) (Below.refl _ _) ?_
 repeat (go_big_quiet_step (exact made_call _ (boxed_le _ _ _ _ _) (H.out _)))
 refine wpQuiet_nil fun x => ?_
 have HX : Hid (Bx w 257 3 4 7 x.w) := LH x.h
 go_wp2_with fail
 refine (H2.out _).mono ?_
 rintro e w2 ⟨rfl,hb⟩
 have HY := LH (HX.out.next hb)
 clear hb
 go_wp2_with fail
 go_ret3
 exact ⟨rfl,HY.out.below⟩
end
end Go.Proofs.YtmgpcbjciioiaaaGreatDoor
