import Derived.Test.YtckbhciehmokdaaGreatDoorSnum
import Derived.Test.YtckbhciehmokdaaGreatDoorHrget
import Derived.Test.YtckbhciehmokdaaGreatDoorHrnew
import Derived.Test.YtckbhciehmokdaaGreatDoorHcodes
import Derived.Test.YtckbhciehmokdaaGreatDoorNrng
namespace Go.Proofs.YtckbhciehmokdaaGreatDoor
set_option maxRecDepth 100000
set_option maxHeartbeats 8000000
open Go.RowKit
theorem i64_and_nat (a b : Nat) (ha : a < 9223372036854775808) (hb : b < 9223372036854775808) : bits .and .i64 (a : Int) (b : Int) = ((a &&& b : Nat) : Int) := by
 have hx : a &&& b < 2 ^ 63 := Nat.and_lt_two_pow _ (by omega)
 have e1 : (BitVec.ofInt 64 (a : Int)).toNat = a := by rw [BitVec.toNat_ofInt]; omega
 have e2 : (BitVec.ofInt 64 (b : Int)).toNat = b := by rw [BitVec.toNat_ofInt]; omega
 show IntKind.i64.wrap ((BitVec.ofInt 64 (a : Int) &&& BitVec.ofInt 64 (b : Int)).toNat : Int) = _
 rw [BitVec.toNat_and, e1, e2, IntKind.wrap_i64]
 omega
theorem sym_val (a p g m j k : Nat) (hk : p * g + m / 2 ^ j <= 1000) (ha : a <= 1000) (h : p * g + m / 2 ^ j = k) : wrap64 ((a : Int) + (p : Int) * (g : Int) + (m : Int) / 2 ^ j) = ((a + k : Nat) : Int) := by
 have e : (a : Int) + (p : Int) * (g : Int) + (m : Int) / 2 ^ j = ((a + (p * g + m / 2 ^ j) : Nat) : Int) := by push_cast; omega
 rw [e, h]
 unfold wrap64
 omega
theorem sym_and (m j : Nat) (hj : j <= 20) (hm : m <= 4294967295) : bits BinOp.and IntKind.i64 (m : Int) (wrap64 (wrap64 (2 ^ j) - 1)) = ((m % 2 ^ j : Nat) : Int) := by
 have h : (2 : Nat) ^ j <= 2 ^ 20 := Nat.pow_le_pow_right (by omega) hj
 have h0 : 0 < (2 : Nat) ^ j := Nat.pow_pos (by omega)
 have h1 := pow_is j hj
 injection h1 with _ h2
 rw [h2, show wrap64 (((2 ^ j : Nat) : Int) - 1) = ((2 ^ j - 1 : Nat) : Int) from by generalize (2 : Nat) ^ j = x at h h0; unfold wrap64; omega, i64_and_nat _ _ (by omega) (by omega), Nat.and_two_pow_sub_one_eq_mod]
def Three (x y c : Int) (w : World) (e : Ending) (w' : World) : Prop := e = .returned (.tuple #[.int .i64 x, .int .i64 y, .int .i64 c]) /\ Below w.heap.size w w'
theorem lsym_loop (n : Nat) (w : World) (h3 : 3 <= n) (hn : n ≠ 258) (hmax : n <= 9223372036854775807) :
  Calls Tryz.prog 105 #[scl 257 3 4 7, .int .i64 (n : Int)] w fun e w' => (n <= 257 /\ Three ((257 + Sy.lk n : Nat) : Int) ((n - Sy.at' Sy.lf (Sy.lk n) : Nat) : Int) 0 w e w') ∨ (259 <= n /\ Three 0 0 2 w e w') := by
 have HL := fun w => lengths_is w
 unfold scl at HL ⊢
 have H := LH HL
 clear HL
 have x0 := fun x => (boxed_cells w 257 3 4 7 x).1
 have x1 := fun x => (boxed_cells w 257 3 4 7 x).2.1
 have x2 := fun x => (boxed_cells w 257 3 4 7 x).2.2.1
 have x3 := fun x => (boxed_cells w 257 3 4 7 x).2.2.2
 have d1 : decide ((n : Int) < 3) = false := decide_eq_false (by omega)
 have d2 : ((n : Int) == 258) = false := by rw [beq_eq_false_iff_ne]; omega
 have d3 : ((n : Int) - 3) = ((n - 3 : Nat) : Int) := by omega
 go_enter Tryz.func105, Tryz.ntmps105
 go_wp2_with fail
 refine region_made (w.heap.size + 1) (boxed w 257 3 4 7) (by kernel_rfl) (by kernel_rfl) (Below.refl _ _) ?_
 repeat (go_big_quiet_step (exact made_call _ (boxed_le _ _ _ _ _) (H.out _)))
 refine wpQuiet_nil fun x => ?_
 have HX : Hid (Bx w 257 3 4 7 x.w) := LH x.h
 go_wp2_with fail
 go_quiet (fail)
 go_wp2_with fail
 go_loopw [7, 8, 32] (fun s7 s8 s32 wr => ∃ g m : Nat, g <= 7 /\ s32 = .int .i64 (g : Int) /\ s7 = .int .i64 ((257 + 4 * g : Nat) : Int) /\ s8 = .int .i64 (m : Int) /\ Hid (Sy.start 3 4 g + m = n) /\ Hid (Bx w 257 3 4 7 wr)) (fun _ _ s _ => 7 - (intOf s).toNat)
 case atStart => exact ⟨0, n - 3, by omega, rfl, by go_num, by go_num, (show 3 + (n - 3) = n by omega), HX.out.drew _⟩
 case round =>
  obtain ⟨g, m, hg, rfl, rfl, rfl, HU, HB⟩ := hrel
  obtain ⟨y0, y1, y2, y3⟩ := HB.out.cells
  have hm9 : m <= 9223372036854775807 := by have := HU.out; omega
  by_cases hlt : g < 7
  ·have hu2 := Sy.lf_start (g + 1) (by omega)
   rw [Sy.start_succ] at hu2
   have HG := LH (fun w => beside_is g w (by omega))
   obtain ⟨j, hj⟩ : ∃ j, j = g - 1 := ⟨_, rfl⟩
   rw [<- hj] at HG hu2
   obtain ⟨t, ht⟩ : ∃ t, t = 4 * 2 ^ j := ⟨_, rfl⟩
   have hts : Value.int .i64 (wrap64 (4 * 2 ^ j)) = .int .i64 (t : Int) := shl_is 4 j t (by omega) (by omega) ht
   rw [<- ht] at hu2
   have hmin : min j 64 = j := by omega
   have HT := LH ht
   have HJ := LH hj
   clear ht hj
   by_cases hm : m < t
   ·go_wp2_with fail
    refine (HG.out _).mono ?_
    rintro e w3 ⟨rfl, rfl⟩
    go_wp2_with fail
    go_quiet (fail)
    go_wp2_with fail
    go_ret3
    have hg := Sy.l_group n g hlt (by have := HT.out; have := HJ.out; have := HU.out; have := Sy.lf_start (g + 1) (by omega); rw [Sy.start_succ, <- HJ.out, <- HT.out] at this; omega) (by have := HU.out; omega) (by have := HU.out; rw [<- HJ.out, <- HT.out]; omega)
    rw [<- HJ.out, show n - Sy.start 3 4 g = m from by have := HU.out; omega] at hg
    refine .inl ⟨by have := HU.out; omega, ?_, HB.out.below.trans (below_drewN (Below.refl _ _) _)⟩
    have v1 : wrap64 (257 + 4 * (g : Int) + (m : Int) / 2 ^ j) = ((257 + Sy.lk n : Nat) : Int) := sym_val 257 4 g m j _ (by have := hg.1; have := (Sy.lk_has n h3).1; omega) (by omega) hg.1
    have v2 := sym_and m j (by have := HJ.out; omega) (by omega)
    rw [hg.2] at v2
    show Ending.returned (.tuple #[.int .i64 (wrap64 (257 + 4 * (g : Int) + (m : Int) / 2 ^ j)), .int .i64 (bits BinOp.and IntKind.i64 (m : Int) (wrap64 (wrap64 (2 ^ j) - 1))), .int .i64 0]) = _
    rw [v1, v2]
   ·have d4 : ((m : Int) - (t : Int)) = ((m - t : Nat) : Int) := by omega
    go_wp2_with fail
    refine (HG.out _).mono ?_
    rintro e w3 ⟨rfl, rfl⟩
    go_wp2_with fail
    go_quiet (fail)
    go_wp2_with fail
    go_roundw
    case rel => exact ⟨g + 1, m - t, by omega, by go_num, by go_num, by go_num, (by show _ = _; have := HU.out; have := HT.out; rw [Sy.start_succ, <- HJ.out, <- HT.out]; omega), HB.out.drew _⟩
    case measure => simp [intOf]; omega
  ·obtain rfl : g = 7 := by omega
   go_wp2_with fail
   go_ret3
   exact .inr ⟨by have := HU.out; rw [Sy.lf_end] at this; omega, rfl, HB.out.below⟩
theorem dsym_loop (n : Nat) (w : World) (h3 : 1 <= n) (hmax : n <= 9223372036854775807) :
  Calls Tryz.prog 105 #[scl 0 1 2 15, .int .i64 (n : Int)] w fun e w' => (n <= 32768 /\ Three ((Sy.dk n : Nat) : Int) ((n - Sy.at' Sy.df (Sy.dk n) : Nat) : Int) 0 w e w') ∨ (32769 <= n /\ Three 0 0 2 w e w') := by
 have HL := fun w => lengths_is w
 unfold scl at HL ⊢
 have H := LH HL
 clear HL
 have x0 := fun x => (boxed_cells w 0 1 2 15 x).1
 have x1 := fun x => (boxed_cells w 0 1 2 15 x).2.1
 have x2 := fun x => (boxed_cells w 0 1 2 15 x).2.2.1
 have x3 := fun x => (boxed_cells w 0 1 2 15 x).2.2.2
 have d1 : decide ((n : Int) < 1) = false := decide_eq_false (by omega)
 have d3 : ((n : Int) - 1) = ((n - 1 : Nat) : Int) := by omega
 go_enter Tryz.func105, Tryz.ntmps105
 go_wp2_with fail
 refine region_made (w.heap.size + 1) (boxed w 0 1 2 15) (by kernel_rfl) (by kernel_rfl) (Below.refl _ _) ?_
 repeat (go_big_quiet_step (exact made_call _ (boxed_le _ _ _ _ _) (H.out _)))
 refine wpQuiet_nil fun x => ?_
 have HX : Hid (Bx w 0 1 2 15 x.w) := LH x.h
 go_wp2_with fail
 go_quiet (fail)
 go_wp2_with fail
 go_loopw [7, 8, 32] (fun s7 s8 s32 wr => ∃ g m : Nat, g <= 15 /\ s32 = .int .i64 (g : Int) /\ s7 = .int .i64 ((2 * g : Nat) : Int) /\ s8 = .int .i64 (m : Int) /\ Hid (Sy.start 1 2 g + m = n) /\ Hid (Bx w 0 1 2 15 wr)) (fun _ _ s _ => 15 - (intOf s).toNat)
 case atStart => exact ⟨0, n - 1, by omega, rfl, by go_num, by go_num, (show 1 + (n - 1) = n by omega), HX.out.drew _⟩
 case round =>
  obtain ⟨g, m, hg, rfl, rfl, rfl, HU, HB⟩ := hrel
  obtain ⟨y0, y1, y2, y3⟩ := HB.out.cells
  have hm9 : m <= 9223372036854775807 := by have := HU.out; omega
  by_cases hlt : g < 15
  ·have hu2 := Sy.df_start (g + 1) (by omega)
   rw [Sy.start_succ] at hu2
   have HG := LH (fun w => beside_is g w (by omega))
   obtain ⟨j, hj⟩ : ∃ j, j = g - 1 := ⟨_, rfl⟩
   rw [<- hj] at HG hu2
   obtain ⟨t, ht⟩ : ∃ t, t = 2 * 2 ^ j := ⟨_, rfl⟩
   have hts : Value.int .i64 (wrap64 (2 * 2 ^ j)) = .int .i64 (t : Int) := shl_is 2 j t (by omega) (by omega) ht
   rw [<- ht] at hu2
   have hmin : min j 64 = j := by omega
   have HT := LH ht
   have HJ := LH hj
   clear ht hj
   by_cases hm : m < t
   ·go_wp2_with fail
    refine (HG.out _).mono ?_
    rintro e w3 ⟨rfl, rfl⟩
    go_wp2_with fail
    go_quiet (fail)
    go_wp2_with fail
    go_ret3
    have hg := Sy.d_group n g hlt (by have := HU.out; omega) (by have := HU.out; rw [<- HJ.out, <- HT.out]; omega)
    rw [<- HJ.out, show n - Sy.start 1 2 g = m from by have := HU.out; omega] at hg
    refine .inl ⟨by have := HU.out; omega, ?_, HB.out.below.trans (below_drewN (Below.refl _ _) _)⟩
    have v1 : wrap64 (2 * (g : Int) + (m : Int) / 2 ^ j) = ((Sy.dk n : Nat) : Int) := by have := sym_val 0 2 g m j _ (by have := hg.1; have := (Sy.dk_has n h3).1; omega) (by omega) hg.1; simpa using this
    have v2 := sym_and m j (by have := HJ.out; omega) (by omega)
    rw [hg.2] at v2
    show Ending.returned (.tuple #[.int .i64 (wrap64 (2 * (g : Int) + (m : Int) / 2 ^ j)), .int .i64 (bits BinOp.and IntKind.i64 (m : Int) (wrap64 (wrap64 (2 ^ j) - 1))), .int .i64 0]) = _
    rw [v1, v2]
   ·have d4 : ((m : Int) - (t : Int)) = ((m - t : Nat) : Int) := by omega
    go_wp2_with fail
    refine (HG.out _).mono ?_
    rintro e w3 ⟨rfl, rfl⟩
    go_wp2_with fail
    go_quiet (fail)
    go_wp2_with fail
    go_roundw
    case rel => exact ⟨g + 1, m - t, by omega, by go_num, by go_num, by go_num, (by show _ = _; have := HU.out; have := HT.out; rw [Sy.start_succ, <- HJ.out, <- HT.out]; omega), HB.out.drew _⟩
    case measure => simp [intOf]; omega
  ·obtain rfl : g = 15 := by omega
   go_wp2_with fail
   go_ret3
   exact .inr ⟨by have := HU.out; rw [Sy.df_end] at this; omega, rfl, HB.out.below⟩
theorem lsym_less (n : Int) (w : World) (h : n < 3) : Calls Tryz.prog 105 #[scl 257 3 4 7, .int .i64 n] w (Three 0 0 2 w) := by
 have d1 : decide (n < 3) = true := decide_eq_true h
 unfold scl
 clear h
 go_enter Tryz.func105, Tryz.ntmps105
 go_wp2_with fail
 go_ret3
 exact ⟨rfl, below1 w _⟩
theorem dsym_less (n : Int) (w : World) (h : n < 1) : Calls Tryz.prog 105 #[scl 0 1 2 15, .int .i64 n] w (Three 0 0 2 w) := by
 have d1 : decide (n < 1) = true := decide_eq_true h
 unfold scl
 clear h
 go_enter Tryz.func105, Tryz.ntmps105
 go_wp2_with fail
 go_ret3
 exact ⟨rfl, below1 w _⟩
theorem lsym_most (w : World) : Calls Tryz.prog 105 #[scl 257 3 4 7, .int .i64 258] w (Three 285 0 0 w) := by
 have HL := fun w => lengths_is w
 have HE := fun w => lend_is w
 unfold scl at HL HE ⊢
 have H := LH HL
 have H2 := LH HE
 clear HL HE
 have x0 := fun x => (boxed_cells w 257 3 4 7 x).1
 have x1 := fun x => (boxed_cells w 257 3 4 7 x).2.1
 have x2 := fun x => (boxed_cells w 257 3 4 7 x).2.2.1
 have x3 := fun x => (boxed_cells w 257 3 4 7 x).2.2.2
 go_enter Tryz.func105, Tryz.ntmps105
 go_wp2_with fail
 refine region_made (w.heap.size + 1) (boxed w 257 3 4 7) (by kernel_rfl) (by kernel_rfl) (Below.refl _ _) ?_
 repeat (go_big_quiet_step (exact made_call _ (boxed_le _ _ _ _ _) (H.out _)))
 refine wpQuiet_nil fun x => ?_
 have HX : Hid (Bx w 257 3 4 7 x.w) := LH x.h
 go_wp2_with fail
 refine (H2.out _).mono ?_
 rintro e w2 ⟨rfl, hb⟩
 have HY := LH (HX.out.next hb)
 clear hb
 go_wp2_with fail
 go_ret3
 exact ⟨rfl, HY.out.below⟩
end Go.Proofs.YtckbhciehmokdaaGreatDoor
namespace Go.Proofs.YtckbhciehmokdaaGreatDoor.Ls
set_option maxRecDepth 100000
set_option maxHeartbeats 8000000
open Go.RowKit
theorem swapRange_to (g cap n a b m : Nat) (F : Value) (d : Nat -> Nat) (w : World) (hr : Rw w g n d) (hn : n <= 288) (hab : a + m <= b) (hbn : b + m <= n) (A B M : Int) (hA : A = (a : Int)) (hB : B = (b : Int)) (hM : M = (m : Int)) :
  Calls Tryz.prog 232 #[.slice (some ⟨g, 0, none⟩) n cap, .int .i64 A, .int .i64 B, .int .i64 M, F] w (SortPost g n w (fun d' => d' = St.exch d a b m)) := by
 subst hA hB hM
 exact swapRange_any g cap n a b m F d w hr hn hab hbn
theorem rotate_any (g cap n a m b : Nat) (F : Value) (d : Nat -> Nat) (w : World) (hr : Rw w g n d) (hn : n <= 288) (ham : a < m) (hmb : m < b) (hbn : b <= n) :
  Calls Tryz.prog 229 #[.slice (some ⟨g, 0, none⟩) n cap, .int .i64 (a : Int), .int .i64 (m : Int), .int .i64 (b : Int), F] w (SortPost g n w (RotIs d a m b)) := by
 have HR := LH hr
 clear hr
 go_enter Tryz.func229, Tryz.ntmps229
 go_wp2
 go_loopw [10, 11] (fun s10 s11 wr => ∃ (i j : Nat) (e : Nat -> Nat), s10 = .int .i64 i /\ s11 = .int .i64 j /\ Hid (RotOn d a m b i j e) /\ Hid (Rw wr g n e) /\ Hid (Only g w wr)) (fun s t _ => (intOf s).toNat + (intOf t).toNat)
 case atStart => exact ⟨m - a, b - m, d, by go_num, by go_num, RotOn.start d a m b ham hmb, HR, Only.refl _ _⟩
 case round =>
  obtain ⟨i, j, e, rfl, rfl, KI, KR, KO⟩ := hrel
  have i1 := KI.out.1
  have i2 := KI.out.2.1
  have i3 := KI.out.2.2.1
  have i4 := KI.out.2.2.2.1
  rcases Nat.lt_trichotomy i j with hlt | hlt | hlt
  ·have hb : ((i : Int) != (j : Int)) = true := by rw [bne_iff_ne]; omega
   go_wp2_with fail
   refine (swapRange_to g cap n (m - i) (m + j - i) i F e wr KR.out hn (by omega) (by omega) _ _ _ (by omega) (by omega) rfl).mono ?_
   rintro e' w2 ⟨rfl, d2, hr2, ho2, rfl⟩
   have KR2 := LH hr2
   have KO2 := LH (KO.out.trans ho2)
   clear hr2 ho2
   go_wp2_with fail
   go_roundw
   case rel => exact ⟨i, j - i, _, rfl, by go_num, KI.out.less hlt, KR2, KO2⟩
   case measure => simp [intOf]; omega
  ·subst hlt
   have hb : ((i : Int) != (i : Int)) = false := by simp
   go_wp2_with fail
   refine (swapRange_to g cap n (m - i) m i F e wr KR.out hn (by omega) (by omega) _ _ _ (by omega) (by omega) rfl).mono ?_
   rintro e' w2 ⟨rfl, d2, hr2, ho2, rfl⟩
   have KR2 := LH hr2
   have KO2 := LH (KO.out.trans ho2)
   clear hr2 ho2
   go_wp2_with fail
   go_end0
   exact ⟨rfl, _, KR2.out, KO2.out, KI.out.done⟩
  ·have hb : ((i : Int) != (j : Int)) = true := by rw [bne_iff_ne]; omega
   go_wp2_with fail
   refine (swapRange_to g cap n (m - i) m j F e wr KR.out hn (by omega) (by omega) _ _ _ (by omega) (by omega) rfl).mono ?_
   rintro e' w2 ⟨rfl, d2, hr2, ho2, rfl⟩
   have KR2 := LH hr2
   have KO2 := LH (KO.out.trans ho2)
   clear hr2 ho2
   go_wp2_with fail
   go_roundw
   case rel => exact ⟨i - j, j, _, by go_num, rfl, KI.out.big hlt, KR2, KO2⟩
   case measure => simp [intOf]; omega
end Go.Proofs.YtckbhciehmokdaaGreatDoor.Ls
namespace Go.Proofs.YtckbhciehmokdaaGreatDoor.Ls
set_option maxRecDepth 100000
set_option maxHeartbeats 8000000
open Go.RowKit
def Cmps (g : Nat) (kf : Nat -> Nat) (p : Nat -> Prop) (w : World) : Prop :=
 ∀ w' (x y : Nat), Only g w w' -> p x -> p y -> Calls Tryz.prog 189 #[.pointer (some ⟨x, 0, none⟩), .pointer (some ⟨y, 0, none⟩)] w' (CmpPost w' (cmpv (kf x) (kf y)))
theorem Cmps.later {g : Nat} {kf : Nat -> Nat} {p : Nat -> Prop} {w w1 : World} (h : Cmps g kf p w) (ho : Only g w w1) : Cmps g kf p w1 := fun w' x y h1 h2 h3 => h w' x y (ho.trans h1) h2 h3
theorem Cmps.at {g n i j : Nat} {kf : Nat -> Nat} {p : Nat -> Prop} {w w' : World} {d : Nat -> Nat} (h : Cmps g kf p w) (ho : Only g w w') (hp : ∀ i, i < n -> p (d i)) (hi : i < n) (hj : j < n) :
  ∃ c : Int, decide (c < 0) = decide (kf (d i) < kf (d j)) /\ ∀ m, Calls Tryz.prog 189 #[.pointer (some ⟨d i, 0, none⟩), .pointer (some ⟨d j, 0, none⟩)] (w'.drewN m) (CmpPost (w'.drewN m) c) :=
 ⟨cmpv (kf (d i)) (kf (d j)), cmpv_neg _ _, fun m => h _ _ _ (only_drewN ho m) (hp i hi) (hp j hj)⟩
theorem row_swap_on {w w1 : World} {g n : Nat} {e : Nat -> Nat} (h : Rw w1 g n e) (ho : Only g w w1) (m i j x y : Nat) (hx : x = e i) (hy : y = e j) (hi : i < n) (hj : j < n) (hne : i ≠ j) :
  Rw (((w1.drewN m).setCell ⟨g, i, none⟩ (.pointer (some ⟨y, 0, none⟩))).setCell ⟨g, j, none⟩ (.pointer (some ⟨x, 0, none⟩))) g n (St.sw e i j) /\
   Only g w (((w1.drewN m).setCell ⟨g, i, none⟩ (.pointer (some ⟨y, 0, none⟩))).setCell ⟨g, j, none⟩ (.pointer (some ⟨x, 0, none⟩))) := by
 subst hx hy
 exact ⟨(h.drewN m).swap i j hi hj hne, ((ho.trans (only_drewN (Only.refl _ _) m)).trans (only_set _ _ _ _)).trans (only_set _ _ _ _)⟩
theorem insertion_any (g cap n a b : Nat) (kf : Nat -> Nat) (p : Nat -> Prop) (d : Nat -> Nat) (w : World) (hr : Rw w g n d) (hn : n <= 288) (hbn : b <= n) (hab : a <= 288) (hris : St.Ris kf d n) (hp : ∀ i, i < n -> p (d i)) (hcmp : Cmps g kf p w) :
  Calls Tryz.prog 221 #[.slice (some ⟨g, 0, none⟩) n cap, .int .i64 (a : Int), .int .i64 (b : Int), .func (.func 189) #[] #[]] w (SortPost g n w (SortIs kf n d a b)) := by
 have HR := LH hr
 have HC := LH hcmp
 have HP := LH hp
 have HS := LH hris
 clear hr hcmp hp hris
 go_enter Tryz.func221, Tryz.ntmps221
 go_wp2
 go_loopw [8] (fun s8 wr => ∃ (i : Nat) (e : Nat -> Nat), a < i /\ i <= 289 /\ s8 = .int .i64 i /\ Hid (InsOut kf n d a b i e) /\ Hid (Rw wr g n e) /\ Hid (Only g w wr)) (fun s _ => b - (intOf s).toNat)
 case atStart => exact ⟨a + 1, d, by omega, by omega, by go_num, InsOut.start HS.out, HR, Only.refl _ _⟩
 case round =>
  obtain ⟨i, e, hi, hi2, rfl, KI, KR, KO⟩ := hrel
  by_cases hlt : i < b
  ·go_wp2
   go_loopw [9] (fun s9 wx => ∃ (j : Nat) (e : Nat -> Nat), a <= j /\ j <= i /\ s9 = .int .i64 j /\ Hid (InsIn kf n d a b i j e) /\ Hid (Rw wx g n e) /\ Hid (Only g w wx)) (fun s _ => (intOf s).toNat)
   case atStart => exact ⟨i, e, by omega, by omega, rfl, KI.out.into, KR, KO⟩
   case round =>
    clear KI KR KO
    obtain ⟨j, e2, hj1, hj2, rfl, KI, KR, KO⟩ := hrel
    by_cases hja : a < j
    ·have hd : decide (a < j) = true := by simpa using hja
     have c1 := KR.out.cell j (by omega)
     have c2 := KR.out.cell (j - 1) (by omega)
     have f1 := KR.out.free j (by omega)
     have f2 := KR.out.free (j - 1) (by omega)
     have hpe : ∀ k, k < n -> p (e2 k) := KI.out.1.all hbn p HP.out
     obtain ⟨c, hc, hcall⟩ := HC.out.at KO.out hpe (i := j) (j := j - 1) (by omega) (by omega)
     obtain ⟨x, hx⟩ : ∃ x, x = e2 j := ⟨_, rfl⟩
     obtain ⟨y, hy⟩ : ∃ y, y = e2 (j - 1) := ⟨_, rfl⟩
     rw [<- hx, <- hy] at hc hcall
     rw [<- hx] at c1
     rw [<- hy] at c2
     have HX := LH hx
     have HY := LH hy
     clear hx hy hpe
     by_cases hk : kf x < kf y
     ·have h0 : decide (c < 0) = true := by rw [hc]; simpa using hk
      have HK := LH hk
      clear hc hk
      go_wp2
      go_quiet ((go_at_call 189; exact quiet_cmp (hcall _)))
      clear hcall
      go_wp2
      go_region
      go_wp2
      all_goals
       go_roundw
       case rel =>
        have st := row_swap_on KR.out KO.out (nq + 1) j (j - 1) x y HX.out HY.out (by omega) (by omega) (by omega)
        exact ⟨j - 1, St.sw e2 j (j - 1), by omega, by omega, by go_num, KI.out.step hja hj2 hlt hbn (by rw [<- HX.out, <- HY.out]; exact HK.out), st.1, st.2⟩
       case measure => simp [intOf]; omega
     ·have h0 : decide (c < 0) = false := by rw [hc]; simpa using hk
      have HK := LH hk
      clear hc hk
      go_wp2
      go_quiet ((go_at_call 189; exact quiet_cmp (hcall _)))
      clear hcall
      go_wp2
      go_roundw
      case rel => exact ⟨i + 1, e2, by omega, by omega, by go_num, KI.out.stop hja hj2 (by rw [<- HX.out, <- HY.out]; exact HK.out), KR.out.drewN _, KO.out.trans (only_drewN (Only.refl _ _) _)⟩
      case measure => simp [intOf]; omega
    ·obtain rfl : j = a := by omega
     have hd : decide (j < j) = false := by simp
     go_wp2
     go_quiet (fail)
     go_wp2
     go_roundw
     case rel => exact ⟨i + 1, e2, by omega, by omega, by go_num, KI.out.first, KR.out.drewN _, KO.out.trans (only_drewN (Only.refl _ _) _)⟩
     case measure => simp [intOf]; omega
  ·go_wp2
   go_end0
   exact ⟨rfl, _, KR.out, KO.out, KI.out.done (by omega)⟩
end Go.Proofs.YtckbhciehmokdaaGreatDoor.Ls
namespace Go.Proofs.YtckbhciehmokdaaGreatDoor
set_option maxRecDepth 100000
set_option maxHeartbeats 8000000
open Go.RowKit
def Lss (w : World) (b : Nat) (L : List (List Nat)) : Prop := ∀ (j : Nat) (xs : List Nat), L[j]? = some xs -> ∃ a n c, w.cell? ⟨b, j, none⟩ = some (.slice a n c) /\ Zl w (.slice a n c) (Hd.zz xs)
theorem count_take_succ (L : List (List Nat)) (j : Nat) (xs : List Nat) (h : L[j]? = some xs) (i : Nat) : (L.take (j + 1)).flatten.count i = (L.take j).flatten.count i + xs.count i := by
 rw [List.take_add_one, h, Option.toList, List.flatten_append, List.count_append]
 simp
theorem count_step (xs : List Nat) (k x : Nat) (h : xs[k]? = some x) (i : Nat) : (xs.take (k + 1)).count i = (xs.take k).count i + (if i = x then 1 else 0) := by
 rw [List.take_add_one, h, Option.toList, List.count_append]
 congr 1
 by_cases e : i = x
 ·subst e; simp
 ·rw [if_neg e]
  simp [List.count_singleton]
  omega
theorem tally_ok (n b cap m : Nat) (L : List (List Nat)) (w : World) (hL : Lss w b L) (hm : m = L.length) (hb : b < w.heap.size) (hx : ∀ xs ∈ L, ∀ x ∈ xs, x < n) (hn : n <= 300) (h9 : L.flatten.length <= 1000000) (hm9 : m <= 1000) :
  Calls Tryz.prog 74 #[.int .i64 (n : Int), .slice (some ⟨b, 0, none⟩) m cap] w fun e w' => e = .returned (.slice (some ⟨w.heap.size, 0, none⟩) n n) /\ Rz w' w.heap.size n (fun i => L.flatten.count i) /\ Below w.heap.size w w' := by
 have hmk := run_make_row' (P := Tryz.prog) 57 3 (.int .i64 0) 8 Tryz.underlying57 Tryz.infoInt rfl .i64 .i64 n (by omega) (by omega)
 have HL := LH hL
 have HM := LH hm
 have HX := LH hx
 have H9 := LH h9
 have RZ0 := LH (madeRz w n)
 have HB0 := LH (below1 w (.cells (madeCells #[.int .i64 0] n) 3))
 clear hL hm hx h9
 go_enter Tryz.func74, Tryz.ntmps74
 go_wp2_with fail
 go_loopw [14] (fun s14 wr => ∃ j : Nat, j <= m /\ s14 = .int .i64 (j : Int) /\ Hid (Rz wr w.heap.size n (fun i => (L.take j).flatten.count i)) /\ Hid (Below w.heap.size w wr)) (fun s _ => m - (intOf s).toNat)
 case atStart => exact ⟨0, Nat.zero_le _, rfl, RZ0.out.congr (fun i _ => by simp), HB0.out⟩
 case round =>
  obtain ⟨j, hj, rfl, KR, KB⟩ := hrel
  by_cases hlt : j < m
  ·obtain ⟨xs, hxs⟩ : ∃ xs, L[j]? = some xs := ⟨L[j]'(by rw [<- HM.out]; exact hlt), List.getElem?_eq_getElem _⟩
   obtain ⟨a1, n1, c1, hc1, hz1⟩ := HL.out j xs hxs
   have hcell := (KB.out.cell (p := ⟨b, j, none⟩) hb).trans hc1
   have HZ := LH hz1
   have hn1 : n1 = xs.length := by obtain ⟨a, len, cap, e, h, _⟩ := hz1; injection e with _ e _; rw [e, h, Hd.zz_length]
   have HN1 := LH hn1
   have HXS := LH (fun _ : Unit => hxs)
   have hxm := List.mem_of_getElem? hxs
   have hlen : xs.length <= 1000000 := by
    have h1 := H9.out
    have h2 : xs.length <= L.flatten.length := (List.sublist_flatten_of_mem hxm).length_le
    omega
   have hn19 : n1 <= 1000000 := by omega
   have HXX := LH (HX.out xs hxm)
   have j1 : (0 : Int) <= (j : Int) := by omega
   have j2 : (j : Int) < (m : Int) := by omega
   clear hc1 hz1 hn1 hxs hxm hlen
   go_wp2_with fail
   go_loopw [20] (fun s20 wx => ∃ k : Nat, k <= n1 /\ s20 = .int .i64 (k : Int) /\ Hid (Rz wx w.heap.size n (fun i => (L.take j).flatten.count i + (xs.take k).count i)) /\ Hid (Below w.heap.size w wx)) (fun s _ => n1 - (intOf s).toNat)
   case atStart => exact ⟨0, Nat.zero_le _, rfl, KR.out.congr (fun i _ => by simp), KB⟩
   case round =>
    obtain ⟨k, hk, rfl, XR, XB⟩ := hrel
    by_cases hlt2 : k < n1
    ·obtain ⟨b1, off1, rfl, hb1, hq1, hc⟩ := zl_cell HZ.out k (by rw [Hd.zz_length]; have := HN1.out; omega)
     rw [Hd.zz_get] at hc
     obtain ⟨x, hx⟩ : ∃ x, xs[k]? = some x := ⟨xs[k]'(by have := HN1.out; omega), List.getElem?_eq_getElem _⟩
     rw [hx, Option.getD_some] at hc
     have hcx := (XB.out.cell (p := ⟨b1, off1 + k, none⟩) hb1).trans hc
     have hxn : x < n := HXX.out x (List.mem_of_getElem? hx)
     obtain ⟨q, hq⟩ : ∃ q, q = (L.take j).flatten.count x + (xs.take k).count x := ⟨_, rfl⟩
     have f0 := XR.out.cell x hxn
     rw [<- hq] at f0
     have f1 := XR.out.free x
     have hq9 : q <= 2000000 := by
      have h1 := List.count_le_length (a := x) (l := (L.take j).flatten)
      have h2 := List.count_le_length (a := x) (l := xs.take k)
      have h3 : (L.take j).flatten.length <= L.flatten.length := by
       have e : L.flatten = (L.take j).flatten ++ (L.drop j).flatten := by rw [<- List.flatten_append, List.take_append_drop]
       rw [e, List.length_append]; omega
      have h4 := H9.out
      have h5 : (xs.take k).length <= n1 := by rw [List.length_take]; omega
      omega
     have NR : Hid (Rz (wr.setCell ⟨w.heap.size, x, none⟩ (.int .i64 ((q + 1 : Nat) : Int))) w.heap.size n (fun i => (L.take j).flatten.count i + (xs.take (k + 1)).count i)) :=
      (XR.out.set x (q + 1) hxn).congr (fun i _ => by
       rw [count_step xs k x hx i]
       by_cases e : i = x
       ·subst e; rw [if_pos rfl, if_pos rfl, hq, Nat.add_assoc]
       ·rw [if_neg e, if_neg e]; rfl)
     have NB := LH (XB.out.setCell (p := ⟨w.heap.size, x, none⟩) (Nat.le_refl _) (.int .i64 ((q + 1 : Nat) : Int)))
     have i1 : (0 : Int) <= (x : Int) := by omega
     have i2 : (x : Int) < (n : Int) := by omega
     have i3 : (0 : Int) <= (k : Int) := by omega
     have i4 : (k : Int) < (n1 : Int) := by omega
     clear hq1 hc hx hq hb1 XR XB
     go_wp2_with fail
     go_roundw
     case rel => first | exact ⟨k + 1, by omega, by go_num, NR, NB⟩ | ((repeat apply Exists.intro); exact ⟨⟨k + 1, by omega, by go_num, NR, NB⟩, rfl⟩)
     case measure => simp [intOf]; omega
    ·obtain rfl : k = n1 := by omega
     have NR : Hid (Rz wr w.heap.size n (fun i => (L.take (j + 1)).flatten.count i)) := XR.out.congr (fun i _ => by
      rw [count_take_succ L j xs (HXS.out ()) i]
      congr 1
      rw [List.take_of_length_le (by have := HN1.out; omega)])
     clear XR
     go_wp2_with fail
     go_roundw
     case rel => first | exact ⟨j + 1, by omega, by go_num, NR, XB⟩ | ((repeat apply Exists.intro); exact ⟨⟨j + 1, by omega, by go_num, NR, XB⟩, rfl⟩)
     case measure => simp [intOf]; omega
  ·obtain rfl : j = m := by omega
   have NR : Hid (Rz wr w.heap.size n (fun i => L.flatten.count i)) := KR.out.congr (fun i _ => by rw [List.take_of_length_le (by have := HM.out; omega)])
   clear KR
   go_wp2_with fail
   go_ret
   exact ⟨rfl, NR.out, KB.out⟩
end Go.Proofs.YtckbhciehmokdaaGreatDoor
