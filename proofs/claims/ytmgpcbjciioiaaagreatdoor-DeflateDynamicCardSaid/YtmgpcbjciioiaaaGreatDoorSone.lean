import Derived.Test.YtmgpcbjciioiaaaGreatDoorCarg
import Derived.Test.YtmgpcbjciioiaaaGreatDoorHsort
import Derived.Lib.MinMax
namespace Go.Proofs.YtmgpcbjciioiaaaGreatDoor
set_option maxRecDepth 100000
set_option maxHeartbeats 8000000
section
open Go.RowKit
theorem i64_and1 (n : Int) : bits .and .i64 n 1 = n % 2 := by
 have h1 : (BitVec.ofInt 64 1).toNat = 2 ^ 1 - 1 := by decide
 have key : (BitVec.ofInt 64 n &&& BitVec.ofInt 64 1).toNat = (n % ((2 ^ 64 : Nat) : Int)).toNat % 2 ^ 1 := by
  rw [BitVec.toNat_and,BitVec.toNat_ofInt,h1,Nat.and_two_pow_sub_one_eq_mod]
 show IntKind.i64.wrap ((BitVec.ofInt 64 n &&& BitVec.ofInt 64 1).toNat : Nat) = n % 2
 rw [key,IntKind.wrap_i64]
 omega
theorem bit_mod (v i : Nat) : v / 2 ^ i % 2 = (v.testBit i).toNat := by
 rw [Nat.testBit_eq_decide_div_mod_eq]
 rcases Nat.mod_two_eq_zero_or_one (v / 2 ^ i) with h | h <;> simp [h]
theorem bit_int (v i : Nat) : ((v : Int) / 2 ^ i) % 2 = ((v.testBit i).toNat : Int) := by
 rw [<- bit_mod]
 have e : ((v : Int) / 2 ^ i) = ((v / 2 ^ i : Nat) : Int) := by simp
 rw [e]
 omega
theorem ret_int {k : IntKind} {a b : Int} (h : a = b) : Ending.returned (.int k a) = .returned (.int k b) := by rw [h]
theorem putBit (V i v : Nat) (w : World) (hi : i < 64) (hc : w.cell? ⟨V,0,none⟩ = some (.int .i64 (v : Int))) :
  Calls Tryz.prog 144 (#[.int .i64 (i : Int)] ++ #[.pointer (some ⟨V,0,none⟩)]) w fun e w' => e = .returned (.int .u8 ((v.testBit i).toNat : Int)) /\ w = w' := by
 show Calls Tryz.prog 144 #[.int .i64 (i : Int),.pointer (some ⟨V,0,none⟩)] w _
 have hb := bit_int v i
 have hlt := Bool.toNat_lt (v.testBit i)
 go_enter Tryz.func144,Tryz.ntmps144
 go_wp2
 go_ret
 exact ⟨ret_int (by rw [i64_and1]; omega),rfl⟩
theorem fits_any (v n : Int) (h : n <= 32) (w : World) :
  Calls Tryz.prog 143 #[.int .i64 v,.int .i64 n] w fun e w' => e = .returned (.bool (decide (0 <= n /\ 0 <= v /\ v / 2 ^ n.toNat = 0))) /\ w = w' := by
 by_cases h1 : 0 <= n
 ·by_cases h2 : 0 <= v
  ·by_cases h3 : v / 2 ^ n.toNat = 0
   ·have e : decide (0 <= n /\ 0 <= v /\ v / 2 ^ n.toNat = 0) = true := decide_eq_true ⟨h1,h2,h3⟩
    rw [e]
    exact fits_yes v n h1 h2 h h3 w
   ·have e : decide (0 <= n /\ 0 <= v /\ v / 2 ^ n.toNat = 0) = false := decide_eq_false fun h => h3 h.2.2
    have h4 : (v / 2 ^ n.toNat == 0) = false := by simpa using h3
    rw [e]
    clear e h3
    go_enter Tryz.func143,Tryz.ntmps143
    go_wp2
    go_ret
    exact ⟨rfl,rfl⟩
  ·have e : decide (0 <= n /\ 0 <= v /\ v / 2 ^ n.toNat = 0) = false := decide_eq_false fun h => h2 h.2.1
   have h4 : decide (0 <= v) = false := by simpa using h2
   rw [e]
   clear e
   go_enter Tryz.func143,Tryz.ntmps143
   go_wp2
   go_ret
   exact ⟨rfl,rfl⟩
 ·have e : decide (0 <= n /\ 0 <= v /\ v / 2 ^ n.toNat = 0) = false := decide_eq_false fun h => h1 h.1
  have h4 : decide (0 <= n) = false := by simpa using h1
  rw [e]
  clear e
  go_enter Tryz.func143,Tryz.ntmps143
  go_wp2
  go_ret
  exact ⟨rfl,rfl⟩
theorem fits_is (v n : Int) (z : Bool) (h : n <= 32) (hz : Hid (decide (0 <= n /\ 0 <= v /\ v / 2 ^ n.toNat = 0) = z)) (w : World) :
  Calls Tryz.prog 143 #[.int .i64 v,.int .i64 n] w fun e w' => e = .returned (.bool z) /\ w = w' := hz.out ▸ fits_any v n h w
def RowPost (w : World) (l : List Bool) (e : Ending) (w' : World) : Prop :=
 ∃ g m : Nat,e = .returned (.tuple #[.agg #[.slice (some ⟨g,0,none⟩) m m,.int .i64 (l.length : Int)],.int .i64 0]) /\ m = (l.length + 7) / 8 /\ w.heap.size <= g /\ Has w' g (bytesObj (Bs.pack l)) /\ Below w.heap.size w w'
theorem set2_below {B : Nat} {w w1 : World} (kb : Below B w w1) (b : Nat) (hb : B <= b) (x y : Value) : Below B w ((w1.setCell ⟨b,0,none⟩ x).setCell ⟨b,1,none⟩ y) :=
 (kb.setCell (by exact hb) _).setCell (by exact hb) _
theorem put_ok (s : Value) (l : List Bool) (v n : Nat) (w : World) (hs : Sl w s (Bs.pack l)) (hN : Hid (l.length <= 1125899906842624)) (hn : n <= 32) (hv : Hid (v < 2 ^ n)) (N : Nat) (hl : Hid (N = l.length)) :
  Calls Tryz.prog 100 #[.agg #[s,.int .i64 (N : Int)],.int .i64 (v : Int),.int .i64 (n : Int)] w (RowPost w (l ++ Bs.bitsOf v n)) := by
 have HS := LH hs
 have HF : Hid (decide (0 <= (n : Int) /\ 0 <= (v : Int) /\ (v : Int) / 2 ^ (n : Int).toNat = 0) = true) := by
  refine decide_eq_true ⟨by omega,by omega,?_⟩
  have e : ((v : Int) / 2 ^ (n : Int).toNat) = ((v / 2 ^ n : Nat) : Int) := by simp
  rw [e,Nat.div_eq_of_lt hv.out]
  rfl
 clear hs
 obtain ⟨a,len,cap,rfl,hl'⟩ := HS.out.shape
 clear hl'
 have hN2 : N <= 1125899906842624 := by have := hl.out; have := hN.out; omega
 go_enter Tryz.func100,Tryz.ntmps100
 go_wp2_with fail
 refine (check_ok _ (Bs.pack l) N _ (HS.out.later (below3 _ _ _ _)) (by omega) (by rw [hl.out]; exact Bs.pack_right l)).mono ?_
 rintro e w1 ⟨rfl,hb1⟩
 obtain ⟨k1,k2,k3,kb,ks⟩ := facts3 hb1
 clear hb1
 obtain ⟨c0,c1,f0,f1⟩ := k1.two
 obtain ⟨b0,g0⟩ := k2.one
 have hi32 : (n : Int) <= 32 := by omega
 go_wp2_with (go_at_call 143; refine (fits_is (v : Int) (n : Int) true hi32 HF _).mono ?_; rintro e w2 ⟨rfl,rfl⟩)
 have HX : Hid (∀ (i : Nat) (wx : World),i < n -> Below w1.heap.size w1 wx -> Calls Tryz.prog 144 (#[.int .i64 (i : Int)] ++ #[.pointer (some ⟨w.heap.size + 1,0,none⟩)]) wx fun e w' => e = .returned (.int .u8 ((v.testBit i).toNat : Int)) /\ Below wx.heap.size wx w') := by
  intro i wx hi hb
  refine (putBit (w.heap.size + 1) i v wx (by omega) (k2.later hb).one.1).mono ?_
  rintro e w' ⟨rfl,rfl⟩
  exact ⟨rfl,Below.refl _ _⟩
 refine (ext_any 144 Tryz.call144 _ l v.testBit a len cap N n ((N + n + 7) / 8) w1 (HS.out.later kb) hl hN2 (by omega) rfl HX).mono ?_
 clear HX HF c0 c1 f0 f1 b0 g0
 rintro e w3 ⟨g,rfl,hg,hh,hb3⟩
 have HH := LH hh
 have k4 := k3.later hb3
 have kb4 := kb.trans (hb3.mono (by omega))
 clear hh k1 k2 k3 kb hb3
 obtain ⟨c0,c1,f0,f1⟩ := k4.two
 go_wp2
 refine bodyPost_ret (v := .tuple #[.agg #[.slice (some ⟨g,0,none⟩) ((N + n + 7) / 8) ((N + n + 7) / 8),.int .i64 ((more l v.testBit n).length : Int)],.int .i64 0]) (by simp [results,Tryz.results100,go_sem,c0,c1]) rfl ⟨g,(N + n + 7) / 8,rfl,?_,by omega,?_,set2_below kb4 _ (by omega) _ _⟩
 ·simp [Bs.bitsOf_length,hl.out]
 ·refine Has.set (Has.set ?_ (by show g ≠ w.heap.size + 1 + 1; omega) _) (by show g ≠ w.heap.size + 1 + 1; omega) _
  have e : Bs.pack (l ++ Bs.bitsOf v n) = Bs.packTo ((N + n + 7) / 8) (more l v.testBit n) := by
   unfold Bs.pack
   rw [List.length_append,Bs.bitsOf_length,<- hl.out]
   rfl
  rw [e]
  exact HH.out
end
section
open Go.RowKit
theorem u8_and1 (x : Nat) (hx : x < 256) (k : Nat) : bits BinOp.and IntKind.u8 ((x : Int) / 2 ^ k) 1 = ((x.testBit k).toNat : Int) := by
 have e : ((x : Int) / 2 ^ k) = ((x / 2 ^ k : Nat) : Int) := by simp
 have h : x / 2 ^ k < 256 := Nat.lt_of_le_of_lt (Nat.div_le_self _ _) hx
 rw [e,show (1 : Int) = ((1 : Nat) : Int) from rfl,u8_and_nat _ _ h (by omega),nat_mask1,bit_mod]
theorem bitAt_row (s : Value) (l : List Bool) (k : Nat) (w : World) (hs : Sl w s (Bs.pack l)) (hk : k < l.length) (_h8 : l.length <= 2251799813685248) :
  Calls Tryz.prog 99 #[s,.int .i64 (k : Int)] w fun e w' => e = .returned (.int .u8 ((l[k]?.getD false).toNat : Int)) /\ w = w' := by
 obtain ⟨a,len,cap,rfl,hl,h2,h3,h4,h5⟩ := hs
 have hl' : len = (l.length + 7) / 8 := by rw [hl,Bs.pack_length]
 obtain ⟨b,off,rfl,hlt,hc⟩ := h5 (by omega)
 have e := Bs.packTo_get ((l.length + 7) / 8) l (k / 8) (by omega)
 have hx := Bs.byteAt_lt l (k / 8)
 have hc' := hc (k / 8) (by omega)
 unfold Bs.pack at hc'
 rw [e] at hc'
 refine (bitAt_any b off len cap k _ w (by omega) hc' (by omega)).mono ?_
 rintro e w' ⟨rfl,rfl⟩
 refine ⟨?_,rfl⟩
 rw [u8_and1 _ hx,Bs.testBit_byteAt]
 have h8 : k % 8 < 8 := by omega
 have h9 : 8 * (k / 8) + k % 8 = k := by omega
 rw [h9]
 simp [h8]
theorem bitAt_is (s : Value) (l : List Bool) (q : Int) (k : Nat) (b : Bool) (w : World) (hs : Sl w s (Bs.pack l)) (hq : Hid (q = (k : Int))) (hb : Hid (b = l[k]?.getD false)) (hk : k < l.length) (h8 : l.length <= 2251799813685248) :
  Calls Tryz.prog 99 #[s,.int .i64 q] w fun e w' => e = .returned (.int .u8 (b.toNat : Int)) /\ w = w' := by
 rw [hq.out,hb.out]
 exact bitAt_row s l k w hs hk h8
theorem i64_or_nat (a b : Nat) (ha : a < 2 ^ 62) (hb : b < 2 ^ 62) : bits .or .i64 (a : Int) (b : Int) = ((a ||| b : Nat) : Int) :=
 (bits_nat .i64 62 (by decide) (fun n h0 h1 => by rw [IntKind.wrap_i64]; omega) a b ha hb).2
theorem num_step (l : List Bool) (p k : Nat) (b : Bool) (h : p + k < l.length) (hb : b = l[p + k]?.getD false) : Bs.num ((l.drop p).take (k + 1)) = Bs.num ((l.drop p).take k) + b.toNat * 2 ^ k := by
 rw [Bs.num_take_succ _ _ (by rw [List.length_drop]; omega),List.getElem_drop,hb,List.getElem?_eq_getElem h]
 rfl
theorem num_take_lt (l : List Bool) (p k : Nat) : Bs.num ((l.drop p).take k) < 2 ^ k :=
 Nat.lt_of_lt_of_le (Bs.num_lt _) (Nat.pow_le_pow_right (by omega) (List.length_take_le _ _))
def Nums (w : World) (v c : Int) (e : Ending) (w' : World) : Prop := e = .returned (.tuple #[.int .i64 v,.int .i64 c]) /\ Below w.heap.size w w'
end
section
open Go.RowKit
def turned (v n : Nat) : Nat := Bs.num (Bs.bitsOf v n).reverse
theorem turned_zero (v : Nat) : turned v 0 = 0 := rfl
theorem turned_succ (v n : Nat) : turned v (n + 1) = (v.testBit n).toNat + 2 * turned v n := by
 unfold turned
 rw [Bs.bitsOf_succ,List.reverse_append]
 rfl
theorem turned_lt (v n : Nat) : turned v n < 2 ^ n := by
 have := Bs.num_lt (Bs.bitsOf v n).reverse
 rw [List.length_reverse,Bs.bitsOf_length] at this
 exact this
theorem fit_nat (v n : Nat) (hv : v < 2 ^ n) : decide (0 <= (n : Int) /\ 0 <= (v : Int) /\ (v : Int) / 2 ^ (n : Int).toNat = 0) = true := by
 refine decide_eq_true ⟨by omega,by omega,?_⟩
 have e : ((v : Int) / 2 ^ (n : Int).toNat) = ((v / 2 ^ n : Nat) : Int) := by simp
 rw [e,Nat.div_eq_of_lt hv]
 rfl
theorem turn_same (v n : Nat) (hn : n <= 16) (hv : Hid (v < 2 ^ n)) (w : World) :
  Calls Tryz.prog 103 #[.int .i64 (v : Int),.int .i64 (n : Int)] w fun e w' => e = .returned (.tuple #[.int .i64 (turned v n : Int),.int .i64 0]) /\ w = w' := by
 have HF : Hid _ := fit_nat v n hv.out
 have d1 : decide (16 < (n : Int)) = false := by simp; omega
 have hi32 : (n : Int) <= 32 := by omega
 go_enter Tryz.func103,Tryz.ntmps103
 go_wp2_with (first | (go_at_call 143; refine (fits_is (v : Int) (n : Int) true hi32 HF _).mono ?_; rintro e w2 ⟨rfl,rfl⟩) | fail)
 go_loop [6,17] (fun t i => ∃ k T : Nat,k <= n /\ i = .int .i64 k /\ t = .int .i64 (T : Int) /\ Hid (T = turned v k)) (fun _ i => n - (intOf i).toNat)
 case atStart => exact ⟨0,0,Nat.zero_le _,rfl,rfl,turned_zero v⟩
 case round =>
  obtain ⟨k,T,hk,rfl,rfl,hT⟩ := hrel
  have hT2 : T < 65536 := by
   have h1 := turned_lt v k
   have h2 : 2 ^ k <= 2 ^ 16 := Nat.pow_le_pow_right (by omega) (by omega)
   rw [hT.out]; omega
  by_cases hlt : k < n
  ·go_wp2
   refine ⟨⟨k + 1,(v.testBit k).toNat + 2 * T,by omega,by go_num,?_,?_⟩,?_⟩
   ·have hb : (v.testBit k).toNat <= 1 := by cases v.testBit k <;> simp
    rw [i64_and1,bit_int,show ((T : Int) * 2) = ((T * 2 : Nat) : Int) by omega,i64_or_nat _ _ (by omega) (by omega),nat_join 1 _ _ (by omega) (by omega)]
    congr 1
    omega
   ·show _ = _
    rw [turned_succ,hT.out]
   ·simp [intOf]; omega
  ·obtain rfl : k = n := by omega
   go_wp2
   go_ret2
   exact ⟨by rw [hT.out]; rfl,rfl⟩
end
section
open Go.RowKit
theorem right_whole (a : Option Addr) (len cap N : Nat) (h2 : N <= 9223372036854775807) (heq : ((len : Int) != (N : Int) / 8 + ((N : Int) % 8 + 7) / 8) = false) (h0 : ((N : Int) % 8 == 0) = true) (w : World) :
  Calls Tryz.prog 162 #[.agg #[.slice a len cap,.int .i64 N]] w fun e w' => e = .returned (.bool true) /\ Below w.heap.size w w' := by
 have hd : decide ((N : Int) < 0) = false := by simp
 go_enter Tryz.func162,Tryz.ntmps162
 go_wp2
 go_quiet (fail)
 go_wp2
 go_ret
 exact ⟨rfl,below_drewN (below1 _ _) _⟩
theorem right_last (b off len cap N : Nat) (x : Nat) (z : Bool) (h2 : N <= 9223372036854775807) (hl : len + 1 <= 281474976710656) (heq : (((len : Int) + 1) != (N : Int) / 8 + ((N : Int) % 8 + 7) / 8) = false) (h0 : ((N : Int) % 8 == 0) = false)
  (w : World) (hb : b < w.heap.size) (hc : w.cell? ⟨b,off + len,none⟩ = some (.int .u8 (x : Int))) (hx : ((x : Int) / 2 ^ (N % 8) == 0) = z) :
  Calls Tryz.prog 162 #[.agg #[.slice (some ⟨b,off,none⟩) (len + 1) cap,.int .i64 N]] w fun e w' => e = .returned (.bool z) /\ Below w.heap.size w w' := by
 have hd : decide ((N : Int) < 0) = false := by simp
 cases z
 all_goals
  go_enter Tryz.func162,Tryz.ntmps162
  go_wp2
  go_quiet (fail)
  go_wp2
  go_ret
  exact ⟨rfl,below_drewN (below1 _ _) _⟩
theorem size_ne (len N : Nat) : ((len : Int) != (N : Int) / 8 + ((N : Int) % 8 + 7) / 8) = (len != (N + 7) / 8) := by
 rw [size_int,Bool.eq_iff_iff,bne_iff_ne,bne_iff_ne]; omega
theorem pow_zero_iff' (x k : Nat) : ((x : Int) / 2 ^ k == 0) = (x / 2 ^ k == 0) := by
 have e : ((x : Int) / 2 ^ k) = ((x / 2 ^ k : Nat) : Int) := by simp
 rw [e,Bool.eq_iff_iff,beq_iff_eq,beq_iff_eq]
 omega
theorem rright_ok (s : Value) (bs : List Nat) (N : Nat) (w : World) (hs : Sl w s bs) (hN : N <= 9223372036854775807) (hr : Bs.right bs N) :
  Calls Tryz.prog 162 #[.agg #[s,.int .i64 N]] w fun e w' => e = .returned (.bool true) /\ Below w.heap.size w w' := by
 obtain ⟨a,len,cap,rfl,rfl,hl,hnil,h8,hc⟩ := hs
 obtain ⟨h1,h2⟩ := hr
 by_cases h0 : N % 8 = 0
 ·exact right_whole a _ cap N hN (by rw [size_ne,h1,bne_eq_false_iff_eq]) (by rw [beq_iff_eq]; omega) w
 ·rcases h2 with h2 | h2
  ·exact absurd h2 h0
  ·obtain ⟨k,hk⟩ : ∃ k,bs.length = k + 1 := ⟨bs.length - 1,by omega⟩
   obtain ⟨b,off,rfl,hb,hcell⟩ := hc (by omega)
   have hne := size_ne bs.length N
   rw [hk] at h2 hcell hne ⊢
   refine right_last b off k cap N (bs[k]?.getD 0) true hN (by omega) (hne.trans (by rw [bne_eq_false_iff_eq]; omega)) (by rw [beq_eq_false_iff_ne]; omega) w hb (hcell k (by omega)) ?_
   rw [pow_zero_iff',beq_iff_eq]
   simpa using h2
theorem rbit_walk (b off len cap k N : Nat) (x : Nat) (w : World) (hb : b < w.heap.size) (hk : k / 8 < len) (hx : x < 256) (hc : w.cell? ⟨b,off + k / 8,none⟩ = some (.int .u8 (x : Int))) (h8 : k < 2251799813685248) :
  Calls Tryz.prog 163 #[.agg #[.slice (some ⟨b,off,none⟩) len cap,.int .i64 N],.int .i64 k] w fun e w' => e = .returned (.int .i64 (((x.testBit (k % 8)).toNat : Nat) : Int)) /\ Below w.heap.size w w' := by
 have hbit := bit_int x (k % 8)
 go_enter Tryz.func163,Tryz.ntmps163
 go_wp2
 go_ret
 refine ⟨ret_int ?_,below1 _ _⟩
 have hq : x / 2 ^ (k % 8) < 256 := Nat.lt_of_le_of_lt (Nat.div_le_self _ _) hx
 have e : ((x : Int) / 2 ^ (k % 8)) = ((x / 2 ^ (k % 8) : Nat) : Int) := by simp
 generalize x / 2 ^ (k % 8) = q at hq e
 rw [i64_and1,e,IntWalk.wrap64_in _ (by omega),<- e]
 exact hbit
theorem rbit_row (s : Value) (l : List Bool) (k N : Nat) (w : World) (hs : Sl w s (Bs.pack l)) (hk : k < l.length) (_h8 : l.length <= 2251799813685248) :
  Calls Tryz.prog 163 #[.agg #[s,.int .i64 (N : Int)],.int .i64 (k : Int)] w fun e w' => e = .returned (.int .i64 ((l[k]?.getD false).toNat : Int)) /\ Below w.heap.size w w' := by
 obtain ⟨a,len,cap,rfl,hl,h2,h3,h4,h5⟩ := hs
 have hl' : len = (l.length + 7) / 8 := by rw [hl,Bs.pack_length]
 obtain ⟨b,off,rfl,hlt,hc⟩ := h5 (by omega)
 have e := Bs.packTo_get ((l.length + 7) / 8) l (k / 8) (by omega)
 have hx := Bs.byteAt_lt l (k / 8)
 have hc' := hc (k / 8) (by omega)
 unfold Bs.pack at hc'
 rw [e] at hc'
 refine (rbit_walk b off len cap k N _ w hlt (by omega) hx hc' (by omega)).mono ?_
 rintro e w' ⟨rfl,hb⟩
 refine ⟨?_,hb⟩
 rw [Bs.testBit_byteAt]
 have h8 : k % 8 < 8 := by omega
 have h9 : 8 * (k / 8) + k % 8 = k := by omega
 rw [h9]
 simp [h8]
theorem rbit_is (s : Value) (l : List Bool) (q : Int) (k N : Nat) (b : Bool) (w : World) (hs : Sl w s (Bs.pack l)) (hq : Hid (q = (k : Int))) (hb : Hid (b = l[k]?.getD false)) (hk : k < l.length) (h8 : l.length <= 2251799813685248) :
  Calls Tryz.prog 163 #[.agg #[s,.int .i64 (N : Int)],.int .i64 q] w fun e w' => e = .returned (.int .i64 (b.toNat : Int)) /\ Below w.heap.size w w' := by
 rw [hq.out,hb.out]
 exact rbit_row s l k N w hs hk h8
end
section
open Go.RowKit
def Row (w : World) (base : Nat) (s : Value) (l : List Bool) : Prop := w.ownsRow base 5 1 s ((l.length + 7) / 8) (vb (Bs.pack l))
theorem Row.sl {w : World} {base : Nat} {s : Value} {l : List Bool} (h : Row w base s l) (hl : l.length <= 2251799813685248) : Sl w s (Bs.pack l) :=
 Sl.owned h (Bs.pack_lt l) (by omega)
theorem Row.block {w : World} {base : Nat} {s : Value} {l : List Bool} (h : Row w base s l) (k : Nat) (hk : s.ownBlock = some k) : base <= k /\ k < w.heap.size := by
 rcases h.2 with ⟨rfl,_⟩ | ⟨g,cap,cur,rfl,hb,hg,_⟩
 ·simp [Value.ownBlock] at hk
 ·simp only [Value.ownBlock,Option.some.injEq] at hk
  subst hk
  exact ⟨hb,(Array.getElem?_eq_some_iff.1 hg).1⟩
theorem own_ne {w : World} {base n b : Nat} {v : Value} {xs : List Value} {cs : Array Value} {fr : Nat × Nat} (h : w.ownsRow base 5 1 v n xs) (hb : Has w b (.cells cs 64 fr)) : v.ownBlock ≠ some b := by
 rcases h.2 with ⟨rfl,_⟩ | ⟨g,cap,cur,rfl,_,hg,_⟩
 ·simp [Value.ownBlock]
 ·intro e
  simp only [Value.ownBlock,Option.some.injEq] at e
  subst e
  have hb' : w.heap[g]? = some (.cells cs 64 fr) := hb
  rw [hg] at hb'
  simp at hb'
theorem Has.grown {w w' : World} {b : Nat} {o : Obj} {row : Option Nat} (h : Has w b o) (hg : w.grownBy w' row) (hne : some b ≠ row) : Has w' b o := (hg.block b h.lt hne).trans h
theorem World.grownBy_refl' (w : World) (row : Option Nat) : w.grownBy w row := ⟨rfl,rfl,rfl,Nat.le_refl _,fun _ _ _ => rfl⟩
theorem grown_trans {w w1 w2 : World} {row : Option Nat} (h : w.grownBy w1 row) (h2 : w1.grownBy w2 row) : w.grownBy w2 row :=
 ⟨h2.os.trans h.os,h2.tape.trans h.tape,h2.output.trans h.output,Nat.le_trans h.size h2.size,fun k hk hne => (h2.block k (Nat.lt_of_lt_of_le hk h.size) hne).trans (h.block k hk hne)⟩
theorem grown_set {w w1 : World} {row : Option Nat} (h : w.grownBy w1 row) {a : Addr} (ha : w.heap.size <= a.block) (v : Value) : w.grownBy (w1.setCell a v) row :=
 ⟨h.os,h.tape,h.output,by have := h.size; simpa [World.setCell] using this,fun k hk hne => (Below.heap_setCell _ _ _ _ (by omega)).trans (h.block k hk hne)⟩
theorem grown_set_own {w w1 : World} {g : Nat} (h : w.grownBy w1 (some g)) (i : Nat) (v : Value) : w.grownBy (w1.setCell ⟨g,i,none⟩ v) (some g) :=
 ⟨h.os,h.tape,h.output,by have := h.size; simpa [World.setCell] using this,fun k hk hne => (Below.heap_setCell _ _ _ _ (by intro e; exact hne (by rw [e]))).trans (h.block k hk hne)⟩
theorem grown_drew {w w1 : World} {row : Option Nat} (h : w.grownBy w1 row) : w.grownBy w1.drew row := ⟨h.os,h.tape,h.output,h.size,h.block⟩
theorem pack_whole (l : List Bool) (b : Bool) (h : l.length % 8 = 0) : Bs.pack (l ++ [b]) = Bs.pack l ++ [b.toNat] := by
 have e : (l.length + 1 + 7) / 8 = (l.length + 7) / 8 + 1 := by omega
 have e2 : (l.length + 7) / 8 = l.length / 8 := by omega
 unfold Bs.pack
 rw [List.length_append,List.length_singleton,e]
 unfold Bs.packTo
 rw [List.range_succ,List.map_append]
 congr 1
 ·apply List.map_congr_left
  intro j hj
  rw [List.mem_range] at hj
  rw [Bs.byteAt_snoc,if_neg (by omega)]
 ·rw [List.map_singleton,Bs.byteAt_snoc,if_pos e2,e2]
  have : Bs.byteAt l (l.length / 8) = 0 := by
   unfold Bs.byteAt
   rw [List.drop_eq_nil_of_le (by omega)]
   rfl
  rw [this,h]
  simp
theorem pack_part (l : List Bool) (b : Bool) (h : ¬ l.length % 8 = 0) : Bs.pack (l ++ [b]) = (Bs.pack l).set (l.length / 8) (Bs.byteAt l (l.length / 8) + b.toNat * 2 ^ (l.length % 8)) := by
 have e : (l.length + 1 + 7) / 8 = (l.length + 7) / 8 := by omega
 unfold Bs.pack
 rw [List.length_append,List.length_singleton,e,Bs.packTo_snoc]
 congr 1
 have h1 : Bs.byteAt l (l.length / 8) < 2 ^ (l.length % 8) := by
  unfold Bs.byteAt
  refine Nat.lt_of_lt_of_le (Bs.num_lt _) (Nat.pow_le_pow_right (by omega) ?_)
  rw [List.length_take,List.length_drop]
  omega
 rw [Nat.shiftLeft_eq,Nat.or_comm,nat_join (l.length % 8) _ _ (by simp) h1]
 omega
theorem byte_room (l : List Bool) (b : Bool) : Bs.byteAt l (l.length / 8) + b.toNat * 2 ^ (l.length % 8) < 256 := by
 have h1 : Bs.byteAt l (l.length / 8) < 2 ^ (l.length % 8) := by
  unfold Bs.byteAt
  refine Nat.lt_of_lt_of_le (Bs.num_lt _) (Nat.pow_le_pow_right (by omega) ?_)
  rw [List.length_take,List.length_drop]
  omega
 have h2 : b.toNat <= 1 := by cases b <;> simp
 have h3 : 2 ^ (l.length % 8) <= 2 ^ 7 := Nat.pow_le_pow_right (by omega) (by omega)
 have h4 := Nat.mul_le_mul_right (2 ^ (l.length % 8)) h2
 omega
def WithPost (w : World) (base : Nat) (s : Value) (l : List Bool) (e : Ending) (w' : World) : Prop :=
 ∃ s' : Value,e = .returned (.agg #[s',.int .i64 (l.length : Int)]) /\ Row w' base s' l /\ w.grownBy w' s.ownBlock
theorem with_new (s : Value) (l : List Bool) (b : Bool) (base N : Nat) (w : World) (hr : Row w base s l) (hb : base <= w.heap.size) (hl : Hid (N = l.length)) (hN : N <= 1125899906842000) (h0 : ((N : Int) % 8 == 0) = true) :
  Calls Tryz.prog 69 #[.agg #[s,.int .i64 (N : Int)],.int .i64 (b.toNat : Int)] w (WithPost w base s (l ++ [b])) := by
 have HR := LH hr
 obtain ⟨i0,hi,hz0,hz1,hz2⟩ := info_parts Tryz.infoU8
 have hb2 : b.toNat < 2 := Bool.toNat_lt b
 clear hr
 go_enter Tryz.func69,Tryz.ntmps69
 have hlen : l.length <= 1125899906842000 := by have := hl.out; omega
 go_wp2_with (at_builtin; refine wpList_append_own _ rfl (.tmp 10) (.tmp 13) 22 rfl base 5 i0 (.int .u8 0) 1 1 Tryz.underlying22 hi hz0 hz1 hz2 rfl (by decide) _ _ _ rfl (((HR.out.alloc _).alloc _).alloc _) ⟨w.heap.size + 1 + 1,0,none⟩ 1 1 [.int .u8 (b.toNat : Int)] rfl rfl ?c1 ?c2 ?c3 ?c4 ?c5 ?_)
 case c1 =>
  have h := cell_one_new ((w.alloc (.cells #[s,.int .i64 (N : Int)] 64)).alloc (.cells #[.slice none 0 0,.int .i64 0] 64)) (.int .u8 (b.toNat : Int)) 5
  simpa using h
 case c2 => intro u hu; simp at hu; subst hu; rfl
 case c3 => unfold maxLen; omega
 case c4 => omega
 case c5 => simp; omega
 ·intro v' w' hown hgrow _
  have HO := LH hown
  have HG := LH hgrow
  have hsz := hgrow.size
  clear hown hgrow
  obtain ⟨g,cap,hv,hgb⟩ : ∃ g cap,v' = .slice (some ⟨g,0,none⟩) ((l.length + 7) / 8 + 1) cap /\ base <= g := by
   rcases HO.out.2 with ⟨_,h⟩ | ⟨g,cap,_,h,h2,_⟩
   ·omega
   ·exact ⟨g,cap,h,h2⟩
  rw [hv] at HO ⊢
  clear hv
  have K1 := LH ((((Has.new w (.cells #[s,.int .i64 (N : Int)] 64)).alloc (.cells #[.slice none 0 0,.int .i64 0] 64)).alloc (.cells #[.int .u8 (b.toNat : Int)] 5)).grown HG.out (by intro e; have := (HR.out.block _ e.symm).2; omega))
  have K2 := LH (((Has.new (w.alloc (.cells #[s,.int .i64 (N : Int)] 64)) (.cells #[.slice none 0 0,.int .i64 0] 64)).alloc (.cells #[.int .u8 (b.toNat : Int)] 5)).grown HG.out (by intro e; have := (HR.out.block _ e.symm).2; simp at this; omega))
  have n1 := own_ne HO.out K1.out
  have n2 := own_ne HO.out K2.out
  have k1 := K1.out
  have k2 := K2.out
  simp only [World.size_alloc] at k2 n2
  obtain ⟨c0,c1,f0,f1⟩ := k1.two
  obtain ⟨e0,e1,g0,g1⟩ := k2.two
  have N1 := LH n1
  have N2 := LH n2
  clear n1 n2 k1 k2
  go_wp2
  refine bodyPost_ret (v := .agg #[.slice (some ⟨g,0,none⟩) ((l.length + 7) / 8 + 1) cap,.int .i64 ((N : Int) + 1)]) (by simp [results,Tryz.results69,go_sem,e0,e1]) rfl ⟨.slice (some ⟨g,0,none⟩) ((l.length + 7) / 8 + 1) cap,?_,?_,?_⟩
  ·have e : (((l ++ [b]).length : Nat) : Int) = (N : Int) + 1 := by rw [List.length_append,List.length_singleton,<- hl.out]; rfl
   rw [e]
  ·have h := HO.out
   have hm : l.length % 8 = 0 := by rw [beq_iff_eq] at h0; have := hl.out; omega
   have e2 : ((l ++ [b]).length + 7) / 8 = (l.length + 7) / 8 + 1 := by rw [List.length_append,List.length_singleton]; omega
   unfold Row
   rw [e2,pack_whole l b hm,vb_append]
   exact ownsRow_setCell_other (ownsRow_setCell_other (ownsRow_setCell_other (ownsRow_setCell_other h N1.out _) N1.out _) N2.out _) N2.out _
  ·have h := grown_trans ((World.grownBy_alloc w (.cells #[s,.int .i64 (N : Int)] 64) s.ownBlock)) (grown_trans (World.grownBy_alloc _ (.cells #[.slice none 0 0,.int .i64 0] 64) s.ownBlock) (grown_trans (World.grownBy_alloc _ (.cells #[.int .u8 (b.toNat : Int)] 5) s.ownBlock) HG.out))
   exact grown_set (grown_set (grown_set (grown_set h (Nat.le_refl _) _) (Nat.le_refl _) _) (Nat.le_succ _) _) (Nat.le_succ _) _
theorem with_mid (g n cap : Nat) (l : List Bool) (b : Bool) (base N : Nat) (w : World) (hr : Row w base (.slice (some ⟨g,0,none⟩) n cap) l) (_hb : base <= w.heap.size) (hl : Hid (N = l.length)) (hN : N <= 1125899906842000) (h0 : ((N : Int) % 8 == 0) = false) :
  Calls Tryz.prog 69 #[.agg #[.slice (some ⟨g,0,none⟩) n cap,.int .i64 (N : Int)],.int .i64 (b.toNat : Int)] w (WithPost w base (.slice (some ⟨g,0,none⟩) n cap) (l ++ [b])) := by
 have HR := LH hr
 have hb2 : b.toNat < 2 := Bool.toNat_lt b
 have hgl := (hr.block g rfl).2
 have hg1 : ¬ w.heap.size = g := by omega
 have hg2 : ¬ w.heap.size + 1 = g := by omega
 have hg3 : ¬ g = w.heap.size := by omega
 have hg4 : ¬ g = w.heap.size + 1 := by omega
 obtain ⟨x,hx⟩ : ∃ x,x = Bs.byteAt l (N / 8) := ⟨_,rfl⟩
 have HX := LH hx
 have hn : n = (l.length + 7) / 8 := by
  rcases hr.2 with ⟨h,_⟩ | ⟨_,_,_,h,_⟩
  ·simp at h
  ·injection h
 have hm0 : ¬ N % 8 = 0 := by rw [beq_eq_false_iff_ne] at h0; omega
 have hnl : N / 8 < n := by have := hl.out; omega
 have hc : w.cell? ⟨g,N / 8,none⟩ = some (.int .u8 (x : Int)) := by
  have hn' := hl.out
  have h := World.ownsRow.cellAt (hn ▸ hr : w.ownsRow base 5 1 (.slice (some ⟨g,0,none⟩) n cap) n (vb (Bs.pack l))) (N / 8) (by omega)
  rw [h,vb_get,HX.out]
  unfold Bs.pack
  rw [Bs.packTo_get' _ _ _ (by omega)]
  rfl
 have hf : w.frozen? ⟨g,N / 8,none⟩ = false := World.ownsRow.frozenAt (hn ▸ hr : w.ownsRow base 5 1 (.slice (some ⟨g,0,none⟩) n cap) n (vb (Bs.pack l))) (N / 8)
 have HN := LH hn
 clear hr hx hn
 go_enter Tryz.func69,Tryz.ntmps69
 go_wp2
 go_region
 go_wp2
 have e1 : N = l.length := hl.out
 have hbr := byte_room l b
 rw [<- e1] at hbr
 have hx := HX.out
 have ev : ((x : Int) + (b.toNat : Int) * 2 ^ (N % 8)) % 256 = ((Bs.byteAt l (N / 8) + b.toNat * 2 ^ (N % 8) : Nat) : Int) := by
  have e : ((b.toNat : Int) * 2 ^ (N % 8)) = ((b.toNat * 2 ^ (N % 8) : Nat) : Int) := by simp
  rw [e,hx]
  generalize b.toNat * 2 ^ (N % 8) = q at hbr
  omega
 rw [ev]
 refine bodyPost_ret (v := .agg #[.slice (some ⟨g,0,none⟩) n cap,.int .i64 ((N : Int) + 1)]) (by simp [results,Tryz.results69,go_sem]) rfl ⟨.slice (some ⟨g,0,none⟩) n cap,?_,?_,?_⟩
 ·have e : (((l ++ [b]).length : Nat) : Int) = (N : Int) + 1 := by rw [List.length_append,List.length_singleton,<- hl.out]; rfl
  rw [e]
 ·have h := (World.ownsRow.stored (HN.out ▸ HR.out : w.ownsRow base 5 1 (.slice (some ⟨g,0,none⟩) n cap) n (vb (Bs.pack l))) (N / 8) (.int .u8 ((Bs.byteAt l (N / 8) + b.toNat * 2 ^ (N % 8) : Nat) : Int))).1
  have e2 : ((l ++ [b]).length + 7) / 8 = n := by rw [List.length_append,List.length_singleton,HN.out]; omega
  unfold Row
  rw [e2,pack_part l b (by omega),vb_set,<- e1]
  exact ((h.alloc _).alloc _).drew
 ·exact grown_drew (grown_trans (grown_set_own (World.grownBy_refl' w (some g)) (N / 8) _) (grown_trans (World.grownBy_alloc _ _ _) (World.grownBy_alloc _ _ _)))
end
section
open Go.RowKit
def scl (sym least per groups : Int) : Value := .agg #[.int .i64 sym,.int .i64 least,.int .i64 per,.int .i64 groups]
theorem Has.four {w : World} {b : Nat} {x y z u : Value} {t : TypeId} (h : Has w b (.cells #[x,y,z,u] t (0,0))) :
  w.cell? ⟨b,0,none⟩ = some x /\ w.cell? ⟨b,1,none⟩ = some y /\ w.cell? ⟨b,2,none⟩ = some z /\ w.cell? ⟨b,3,none⟩ = some u :=
 ⟨by rw [h.cell]; rfl,by rw [h.cell]; rfl,by rw [h.cell]; rfl,by rw [h.cell]; rfl⟩
def Gives (v : Value) (w : World) (e : Ending) (w' : World) : Prop := e = .returned v /\ Below w.heap.size w w'
theorem lengths_is (w : World) : Calls Tryz.prog 104 #[] w (Gives (scl 257 3 4 7) w) := by
 go_enter Tryz.func104,Tryz.ntmps104
 go_wp2
 refine bodyPost_ret (v := scl 257 3 4 7) (by simp [results,Tryz.results104,go_sem,scl]) rfl ⟨rfl,below1 w _⟩
theorem distances_is (w : World) : Calls Tryz.prog 107 #[] w (Gives (scl 0 1 2 15) w) := by
 go_enter Tryz.func107,Tryz.ntmps107
 go_wp2
 refine bodyPost_ret (v := scl 0 1 2 15) (by simp [results,Tryz.results107,go_sem,scl]) rfl ⟨rfl,below1 w _⟩
theorem beside_is (g : Nat) (w : World) (hg : g <= 1000) : Calls Tryz.prog 148 #[.int .i64 (g : Int)] w fun e w' => e = .returned (.int .i64 ((g - 1 : Nat) : Int)) /\ w = w' := by
 have h : max ((g : Int) - 1) 0 = ((g - 1 : Nat) : Int) := by omega
 go_enter Tryz.func148,Tryz.ntmps148
 go_wp2
 go_ret
 exact ⟨by rw [<- h]; rfl,rfl⟩
theorem lend_is (w : World) : Calls Tryz.prog 147 #[scl 257 3 4 7] w (Gives (.int .i64 285) w) := by
 unfold scl
 go_enter Tryz.func147,Tryz.ntmps147
 go_wp2
 go_ret
 exact ⟨rfl,below1 w _⟩
theorem dend_is (w : World) : Calls Tryz.prog 147 #[scl 0 1 2 15] w (Gives (.int .i64 30) w) := by
 unfold scl
 go_enter Tryz.func147,Tryz.ntmps147
 go_wp2
 go_ret
 exact ⟨rfl,below1 w _⟩
end
end Go.Proofs.YtmgpcbjciioiaaaGreatDoor
