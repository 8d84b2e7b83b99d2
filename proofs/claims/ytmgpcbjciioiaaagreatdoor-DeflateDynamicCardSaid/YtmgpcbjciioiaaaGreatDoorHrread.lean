import Derived.Test.YtmgpcbjciioiaaaGreatDoorKlen
import Derived.Test.YtmgpcbjciioiaaaGreatDoorKneed
import Derived.Test.YtmgpcbjciioiaaaGreatDoorHrnew
import Derived.Test.YtmgpcbjciioiaaaGreatDoorHrcodes
namespace Go.Proofs.YtmgpcbjciioiaaaGreatDoor
set_option maxRecDepth 100000
set_option maxHeartbeats 8000000
section
open Go.RowKit
theorem rextra_is (s : Nat) (w : World) : Calls Tryz.prog 168 #[.int .i64 (s : Int)] w fun e w' => e = .returned (.int .i64 (Hd.ex s : Int)) /\ w = w' := by
 by_cases h6 : s = 16
 ·subst h6
  go_enter Tryz.func168,Tryz.ntmps168
  go_wp2
  go_ret
  exact ⟨rfl,rfl⟩
 ·by_cases h7 : s = 17
  ·subst h7
   go_enter Tryz.func168,Tryz.ntmps168
   go_wp2
   go_ret
   exact ⟨rfl,rfl⟩
  ·by_cases h8 : s = 18
   ·subst h8
    go_enter Tryz.func168,Tryz.ntmps168
    go_wp2
    go_ret
    exact ⟨rfl,rfl⟩
   ·have e1 : ((s : Int) == 16) = false := by rw [beq_eq_false_iff_ne]; omega
    have e2 : ((s : Int) == 17) = false := by rw [beq_eq_false_iff_ne]; omega
    have e3 : ((s : Int) == 18) = false := by rw [beq_eq_false_iff_ne]; omega
    have hx : Hid (Hd.ex s = 0) := by show _ = _; unfold Hd.ex; rw [if_neg h6,if_neg h7,if_neg h8]
    clear h6 h7 h8
    go_enter Tryz.func168,Tryz.ntmps168
    go_wp2
    go_ret
    exact ⟨by rw [hx.out]; rfl,rfl⟩
theorem one_append {w : World} {base : Nat} {v : Value} {xs : List Nat} (hown : Own base w v xs) (ty : TypeId) (q : Nat) (h1 : xs.length + 1 <= 100000) (hb : base <= w.heap.size) :
  ∃ v' w',(Builtin.append_ #[57,57] ty #[v,.slice (some ⟨w.heap.size,0,none⟩) 1 1]).run Tryz.prog (w.alloc (.cells #[.int .i64 (q : Int)] 3)) = .ok v' w' /\ Own base w' v' (xs ++ [q]) /\ Below base w w' := by
 have hg : Has (w.alloc (.cells #[.int .i64 (q : Int)] 3)) w.heap.size (nums [q]) := Has.new w _
 obtain ⟨v',w',h1,h2,h3⟩ := nums_append (hown.keep (below1 w _)) ty w.heap.size 1 1 [q] hg rfl (by omega) h1 (by simp; omega)
 exact ⟨v',w',h1,h2,((below1 w _).mono hb).grown h3 (by simp; omega) hown.block⟩
theorem rtake_any (base : Nat) (sv : Value) (acc : List Nat) (s v n : Nat) (hv : v < 2 ^ Hd.ex s) (hn : n <= 400) (hl : acc.length <= n) (w : World) (ho : Own base w sv acc) (hb : base <= w.heap.size) :
  Calls Tryz.prog 169 #[sv,.agg #[.int .i64 (s : Int),.int .i64 (v : Int)],.int .i64 (n : Int)] w (LenPost base w (Hd.take acc s v n)) := by
 have hv2 : v < 128 := Nat.lt_of_lt_of_le hv (by have : 2 ^ Hd.ex s <= 2 ^ 7 := Nat.pow_le_pow_right (by omega) (Hd.ex_le s); omega)
 obtain ⟨a,cap,rfl⟩ := ho.shape
 have hbx := below1 w (.cells #[.int .i64 (s : Int),.int .i64 (v : Int)] 165)
 have HB0 := LH (hbx.mono hb)
 have HO0 := LH (ho.keep hbx)
 have HO := LH ho
 have hv9 := hv
 clear ho hv
 obtain ⟨len,hlen⟩ : ∃ len,len = acc.length := ⟨_,rfl⟩
 rw [<- hlen] at HO HO0 hl ⊢
 have HL := LH hlen
 clear hlen hbx
 by_cases h16 : s = 16
 ·subst h16
  by_cases h0 : len = 0
  ·rw [take_none acc 16 v n rfl (by rw [<- HL.out]; exact h0)]
   subst h0
   go_enter Tryz.func169,Tryz.ntmps169
   go_wp2
   go_ret2
   exact ⟨_,rfl,fun h => by simp at h,HB0.out⟩
  ·have e0 : ((len : Int) == 0) = false := by rw [beq_eq_false_iff_ne]; omega
   have e1 : decide ((0 : Int) < (len : Int)) = true := decide_eq_true (by omega)
   have e2 : decide (0 < len) = true := decide_eq_true (by omega)
   obtain ⟨k,rfl⟩ : ∃ k,len = k + 1 := ⟨len - 1,by omega⟩
   obtain ⟨q,hq⟩ : ∃ q,q = Hd.val acc 16 := ⟨_,rfl⟩
   obtain ⟨ga,rfl,hga,hgb,hcl⟩ := HO.out.cells (by rw [<- HL.out]; omega)
   have hcell : (w.alloc (.cells #[.int .i64 16,.int .i64 (v : Int)] 165)).cell? ⟨ga,k,none⟩ = some (.int .i64 (q : Int)) := by
    have hb' := below1 w (.cells #[.int .i64 16,.int .i64 (v : Int)] 165)
    rw [hb'.cell (p := ⟨ga,k,none⟩) hga,hcl k (by rw [<- HL.out]; omega),hq]
    simp [Hd.val,<- HL.out]
   by_cases hlt : n < (k + 1) + (3 + v)
   ·rw [take_large acc 16 v n (by rw [<- HL.out]; omega) (by rw [<- HL.out]; rw [show Hd.least 16 = 3 from rfl]; exact hlt)]
    have j1 : decide ((n : Int) - ((k : Int) + 1) < 3 + (v : Int)) = true := decide_eq_true (by omega)
    clear hcl hq hga hgb h0
    go_enter Tryz.func169,Tryz.ntmps169
    go_wp2
    go_quiet (fail)
    go_wp2
    go_ret2
    exact ⟨_,rfl,fun h => by simp at h,below_drewN HB0.out _⟩
   ·have ht : Hd.take acc 16 v n = (acc ++ List.replicate (3 + v) q,0) := by
     rw [take_some acc 16 v n (by rw [<- HL.out]; omega) (by rw [<- HL.out,show Hd.least 16 = 3 from rfl]; omega),<- hq]; rfl
    rw [ht]
    have j1 : decide ((n : Int) - ((k : Int) + 1) < 3 + (v : Int)) = false := decide_eq_false (by omega)
    have hle : (k + 1) + (3 + v) <= n := by omega
    clear hcl hq hga hgb h0 ht hlt
    go_enter Tryz.func169,Tryz.ntmps169
    go_wp2
    go_quiet (fail)
    go_wp2
    go_wp2_with fail
    go_loopw [0,10] (fun s0 s10 wr => ∃ i : Nat,s10 = .int .i64 (i : Int) /\ i <= (3 + v) /\ Hid (Own base wr s0 (acc ++ List.replicate i q)) /\ Hid (Below base w wr)) (fun _ s _ => (3 + v) - (intOf s).toNat)
    case atStart => exact ⟨0,by go_num,by omega,by show Own _ _ _ _; rw [List.replicate_zero,List.append_nil]; exact HO0.out,below_drewN HB0.out _⟩
    case round =>
     obtain ⟨i,rfl,hi,KO,KB⟩ := hrel
     by_cases hlt : i < (3 + v)
     ·have j0 : decide ((i : Int) < 3 + (v : Int)) = true := decide_eq_true (by omega)
      obtain ⟨a0,c0',rfl⟩ := KO.out.shape
      obtain ⟨v',w',r1,r2,r3⟩ := one_append (v := .slice a0 (acc ++ List.replicate i q).length c0') KO.out 57 q (by rw [List.length_append,List.length_replicate]; have := HL.out; omega) (by have := KB.out.size; omega)
      have R1 := LH r1
      have R2 : Hid (Own base w' v' (acc ++ List.replicate (i + 1) q)) := by
       show Own _ _ _ _
       rw [List.append_assoc,<- List.replicate_succ'] at r2
       exact r2
      have R3 := LH (KB.out.trans r3)
      clear r1 r2 r3
      generalize (acc ++ List.replicate i q).length = ln at R1 ⊢
      go_wp2_with (at_builtin; refine wpList_append_is rfl _ _ 57 rfl _ _ _ _ rfl rfl R1.out ?_)
      go_round
      case rel => first | exact ⟨i + 1,by go_num,by omega,R2,R3⟩ | ((repeat apply Exists.intro); exact ⟨⟨i + 1,by go_num,by omega,R2,R3⟩,rfl⟩)
      case measure => simp [intOf]; omega
     ·obtain rfl : i = (3 + v) := by omega
      have j0 : decide ((((3 + v) : Nat) : Int) < 3 + (v : Int)) = false := decide_eq_false (by omega)
      have HK := LH KO.out
      clear KO
      go_wp2
      go_ret2
      exact ⟨_,rfl,fun _ => HK.out,KB.out⟩
 ·by_cases h17 : s = 17
  ·subst h17
   by_cases hlt : n < len + (3 + v)
   ·rw [take_large acc 17 v n (by omega) (by rw [<- HL.out]; rw [show Hd.least 17 = 3 from rfl]; omega)]
    have j1 : decide ((n : Int) - (len : Int) < 3 + (v : Int)) = true := decide_eq_true (by omega)
    clear h16
    go_enter Tryz.func169,Tryz.ntmps169
    go_wp2
    go_quiet (fail)
    go_wp2
    go_ret2
    exact ⟨_,rfl,fun h => by simp at h,below_drewN HB0.out _⟩
   ·have ht : Hd.take acc 17 v n = (acc ++ List.replicate (3 + v) 0,0) := by
     rw [take_some acc 17 v n (by omega) (by rw [<- HL.out,show Hd.least 17 = 3 from rfl]; omega)]; rfl
    rw [ht]
    have j1 : decide ((n : Int) - (len : Int) < 3 + (v : Int)) = false := decide_eq_false (by omega)
    have hle : len + (3 + v) <= n := by omega
    clear h16 ht hlt
    go_enter Tryz.func169,Tryz.ntmps169
    go_wp2
    go_quiet (fail)
    go_wp2
    go_wp2_with fail
    go_loopw [0,10] (fun s0 s10 wr => ∃ i : Nat,s10 = .int .i64 (i : Int) /\ i <= (3 + v) /\ Hid (Own base wr s0 (acc ++ List.replicate i 0)) /\ Hid (Below base w wr)) (fun _ s _ => (3 + v) - (intOf s).toNat)
    case atStart => exact ⟨0,by go_num,by omega,by show Own _ _ _ _; rw [List.replicate_zero,List.append_nil]; exact HO0.out,below_drewN HB0.out _⟩
    case round =>
     obtain ⟨i,rfl,hi,KO,KB⟩ := hrel
     by_cases hlt : i < (3 + v)
     ·have j0 : decide ((i : Int) < 3 + (v : Int)) = true := decide_eq_true (by omega)
      obtain ⟨a0,c0',rfl⟩ := KO.out.shape
      obtain ⟨v',w',r1,r2,r3⟩ := one_append (v := .slice a0 (acc ++ List.replicate i 0).length c0') KO.out 57 0 (by rw [List.length_append,List.length_replicate]; have := HL.out; omega) (by have := KB.out.size; omega)
      have R1 := LH r1
      have R2 : Hid (Own base w' v' (acc ++ List.replicate (i + 1) 0)) := by
       show Own _ _ _ _
       rw [List.append_assoc,<- List.replicate_succ'] at r2
       exact r2
      have R3 := LH (KB.out.trans r3)
      clear r1 r2 r3
      generalize (acc ++ List.replicate i 0).length = ln at R1 ⊢
      go_wp2_with (at_builtin; refine wpList_append_is rfl _ _ 57 rfl _ _ _ _ rfl rfl R1.out ?_)
      go_round
      case rel => first | exact ⟨i + 1,by go_num,by omega,R2,R3⟩ | ((repeat apply Exists.intro); exact ⟨⟨i + 1,by go_num,by omega,R2,R3⟩,rfl⟩)
      case measure => simp [intOf]; omega
     ·obtain rfl : i = (3 + v) := by omega
      have j0 : decide ((((3 + v) : Nat) : Int) < 3 + (v : Int)) = false := decide_eq_false (by omega)
      have HK := LH KO.out
      clear KO
      go_wp2
      go_ret2
      exact ⟨_,rfl,fun _ => HK.out,KB.out⟩
  ·by_cases h18 : s = 18
   ·subst h18
    by_cases hlt : n < len + (11 + v)
    ·rw [take_large acc 18 v n (by omega) (by rw [<- HL.out]; rw [show Hd.least 18 = 11 from rfl]; omega)]
     have j1 : decide ((n : Int) - (len : Int) < 11 + (v : Int)) = true := decide_eq_true (by omega)
     clear h16
     go_enter Tryz.func169,Tryz.ntmps169
     go_wp2
     go_quiet (fail)
     go_wp2
     go_ret2
     exact ⟨_,rfl,fun h => by simp at h,below_drewN HB0.out _⟩
    ·have ht : Hd.take acc 18 v n = (acc ++ List.replicate (11 + v) 0,0) := by
      rw [take_some acc 18 v n (by omega) (by rw [<- HL.out,show Hd.least 18 = 11 from rfl]; omega)]; rfl
     rw [ht]
     have j1 : decide ((n : Int) - (len : Int) < 11 + (v : Int)) = false := decide_eq_false (by omega)
     have hle : len + (11 + v) <= n := by omega
     clear h16 ht hlt
     go_enter Tryz.func169,Tryz.ntmps169
     go_wp2
     go_quiet (fail)
     go_wp2
     go_wp2_with fail
     go_loopw [0,10] (fun s0 s10 wr => ∃ i : Nat,s10 = .int .i64 (i : Int) /\ i <= (11 + v) /\ Hid (Own base wr s0 (acc ++ List.replicate i 0)) /\ Hid (Below base w wr)) (fun _ s _ => (11 + v) - (intOf s).toNat)
     case atStart => exact ⟨0,by go_num,by omega,by show Own _ _ _ _; rw [List.replicate_zero,List.append_nil]; exact HO0.out,below_drewN HB0.out _⟩
     case round =>
      obtain ⟨i,rfl,hi,KO,KB⟩ := hrel
      by_cases hlt : i < (11 + v)
      ·have j0 : decide ((i : Int) < 11 + (v : Int)) = true := decide_eq_true (by omega)
       obtain ⟨a0,c0',rfl⟩ := KO.out.shape
       obtain ⟨v',w',r1,r2,r3⟩ := one_append (v := .slice a0 (acc ++ List.replicate i 0).length c0') KO.out 57 0 (by rw [List.length_append,List.length_replicate]; have := HL.out; omega) (by have := KB.out.size; omega)
       have R1 := LH r1
       have R2 : Hid (Own base w' v' (acc ++ List.replicate (i + 1) 0)) := by
        show Own _ _ _ _
        rw [List.append_assoc,<- List.replicate_succ'] at r2
        exact r2
       have R3 := LH (KB.out.trans r3)
       clear r1 r2 r3
       generalize (acc ++ List.replicate i 0).length = ln at R1 ⊢
       go_wp2_with (at_builtin; refine wpList_append_is rfl _ _ 57 rfl _ _ _ _ rfl rfl R1.out ?_)
       go_round
       case rel => first | exact ⟨i + 1,by go_num,by omega,R2,R3⟩ | ((repeat apply Exists.intro); exact ⟨⟨i + 1,by go_num,by omega,R2,R3⟩,rfl⟩)
       case measure => simp [intOf]; omega
      ·obtain rfl : i = (11 + v) := by omega
       have j0 : decide ((((11 + v) : Nat) : Int) < 11 + (v : Int)) = false := decide_eq_false (by omega)
       have HK := LH KO.out
       clear KO
       go_wp2
       go_ret2
       exact ⟨_,rfl,fun _ => HK.out,KB.out⟩
   ·have e6 : ((s : Int) == 16) = false := by rw [beq_eq_false_iff_ne]; omega
    have e7 : ((s : Int) == 17) = false := by rw [beq_eq_false_iff_ne]; omega
    have e8 : ((s : Int) == 18) = false := by rw [beq_eq_false_iff_ne]; omega
    have hx0 : Hd.ex s = 0 := by unfold Hd.ex; rw [if_neg h16,if_neg h17,if_neg h18]
    have hv0 : v = 0 := by rw [hx0] at hv9; omega
    have hl1 : Hd.least s = 1 := by unfold Hd.least; rw [if_neg h16,if_neg h17,if_neg h18]
    have hvl : Hd.val acc s = s := by unfold Hd.val; rw [if_neg h16,if_neg (by omega)]
    subst hv0
    by_cases hlt : n < len + 1
    ·rw [take_large acc s 0 n (by omega) (by rw [<- HL.out]; rw [hl1]; omega)]
     have j1 : decide ((n : Int) - (len : Int) < (1 : Int)) = true := decide_eq_true (by omega)
     clear h16 h17 h18 hx0 hl1 hvl hv9
     go_enter Tryz.func169,Tryz.ntmps169
     go_wp2
     go_quiet (fail)
     go_wp2
     go_ret2
     exact ⟨_,rfl,fun h => by simp at h,below_drewN HB0.out _⟩
    ·have ht : Hd.take acc s 0 n = (acc ++ List.replicate 1 s,0) := by
      rw [take_some acc s 0 n (by omega) (by rw [<- HL.out,hl1]; omega),hl1,hvl]
     rw [ht]
     have j1 : decide ((n : Int) - (len : Int) < (1 : Int)) = false := decide_eq_false (by omega)
     have hle : len + 1 <= n := by omega
     clear h16 h17 h18 ht hlt hx0 hl1 hvl hv9
     go_enter Tryz.func169,Tryz.ntmps169
     go_wp2
     go_quiet (fail)
     go_wp2
     go_wp2_with fail
     go_loopw [0,10] (fun s0 s10 wr => ∃ i : Nat,s10 = .int .i64 (i : Int) /\ i <= 1 /\ Hid (Own base wr s0 (acc ++ List.replicate i s)) /\ Hid (Below base w wr)) (fun _ s _ => 1 - (intOf s).toNat)
     case atStart => exact ⟨0,by go_num,by omega,by show Own _ _ _ _; rw [List.replicate_zero,List.append_nil]; exact HO0.out,below_drewN HB0.out _⟩
     case round =>
      obtain ⟨i,rfl,hi,KO,KB⟩ := hrel
      by_cases hlt : i < 1
      ·have j0 : decide ((i : Int) < (1 : Int)) = true := decide_eq_true (by omega)
       obtain ⟨a0,c0',rfl⟩ := KO.out.shape
       obtain ⟨v',w',r1,r2,r3⟩ := one_append (v := .slice a0 (acc ++ List.replicate i s).length c0') KO.out 57 s (by rw [List.length_append,List.length_replicate]; have := HL.out; omega) (by have := KB.out.size; omega)
       have R1 := LH r1
       have R2 : Hid (Own base w' v' (acc ++ List.replicate (i + 1) s)) := by
        show Own _ _ _ _
        rw [List.append_assoc,<- List.replicate_succ'] at r2
        exact r2
       have R3 := LH (KB.out.trans r3)
       clear r1 r2 r3
       generalize (acc ++ List.replicate i s).length = ln at R1 ⊢
       go_wp2_with (at_builtin; refine wpList_append_is rfl _ _ 57 rfl _ _ _ _ rfl rfl R1.out ?_)
       go_round
       case rel => first | exact ⟨i + 1,by go_num,by omega,R2,R3⟩ | ((repeat apply Exists.intro); exact ⟨⟨i + 1,by go_num,by omega,R2,R3⟩,rfl⟩)
       case measure => simp [intOf]; omega
      ·obtain rfl : i = 1 := by omega
       have j0 : decide (((1 : Nat) : Int) < (1 : Int)) = false := decide_eq_false (by omega)
       have HK := LH KO.out
       clear KO
       go_wp2
       go_ret2
       exact ⟨_,rfl,fun _ => HK.out,KB.out⟩
end
section
open Go.RowKit
def NoH (ls : List Nat) (V n i : Nat) : Prop := ∀ x,x < i -> ¬ (Hf.ln ls x = n /\ (Hf.codes ls)[x]?.getD 0 = V)
theorem NoH.zero (ls : List Nat) (V n : Nat) : NoH ls V n 0 := fun x hx => by omega
theorem NoH.step {ls : List Nat} {V n i x c : Nat} (h : NoH ls V n i) (hx : x = Hf.ln ls i) (hc : c = (Hf.codes ls)[i]?.getD 0) (hn : ¬ (x = n /\ c = V)) : NoH ls V n (i + 1) := fun y hy => by
 by_cases e : y = i
 ·subst e; rw [<- hx,<- hc]; exact hn
 ·exact h y (by omega)
def Som (ls : List Nat) (V n i : Nat) (sm : Bool) : Prop := sm = true ↔ ∃ x,x < i /\ 0 < Hf.ln ls x /\ n <= Hf.ln ls x /\ (Hf.codes ls)[x]?.getD 0 / 2 ^ (Hf.ln ls x - n) = V
theorem Som.zero (ls : List Nat) (V n : Nat) : Som ls V n 0 false := ⟨fun h => (nomatch h),fun ⟨x,hx,_⟩ => by omega⟩
theorem Som.step {ls : List Nat} {V n i x c : Nat} {sm : Bool} (h : Som ls V n i sm) (hx : x = Hf.ln ls i) (hc : c = (Hf.codes ls)[i]?.getD 0) :
  Som ls V n (i + 1) (sm || (decide (0 < x) && (decide (n <= x) && decide (c / 2 ^ (x - n) = V)))) := by
 unfold Som at h ⊢
 simp only [Bool.or_eq_true,Bool.and_eq_true,decide_eq_true_eq,h]
 constructor
 ·rintro (⟨y,h1,h2⟩ | ⟨h1,h2,h3⟩)
  ·exact ⟨y,by omega,h2⟩
  ·exact ⟨i,by omega,by rw [<- hx]; exact h1,by rw [<- hx]; exact h2,by rw [<- hx,<- hc]; exact h3⟩
 ·rintro ⟨y,h1,h2,h3,h4⟩
  by_cases e : y = i
  ·subst e; rw [<- hx] at h2 h3 h4; rw [<- hc] at h4; exact Or.inr ⟨h2,h3,h4⟩
  ·exact Or.inl ⟨y,by omega,h2,h3,h4⟩
theorem hit_here {ls : List Nat} {l : List Bool} {p n i : Nat} (hi : i < ls.length) (h0 : 0 < n) (h15 : n <= 15) (hx : Hf.ln ls i = n) (hc : (Hf.codes ls)[i]?.getD 0 = Hf.vb l p n) : ∃ k,Hf.sy ls k = i /\ Hf.Hit ls l p n k := by
 obtain ⟨k,hk,e⟩ := Hf.sy_of ls i hi (by omega) (by omega)
 refine ⟨k,e,hk,by rw [e]; exact hx,?_⟩
 rw [<- Hf.codes_get ls k hk,e]; exact hc
theorem NoH.none {ls : List Nat} {l : List Bool} {p n : Nat} (h : NoH ls (Hf.vb l p n) n ls.length) (k : Nat) : ¬ Hf.Hit ls l p n k := by
 rintro ⟨h1,h2,h3⟩
 refine h _ (Hf.sy_mem ls k h1).1 ⟨h2,?_⟩
 rw [Hf.codes_get ls k h1]; exact h3
theorem Som.some {ls : List Nat} {l : List Bool} {p n : Nat} (h15 : ∀ i,i < ls.length -> Hf.ln ls i <= 15) (h : Som ls (Hf.vb l p n) n ls.length true) : ∃ k,Hf.Beg ls l p n k := by
 obtain ⟨x,h1,h2,h3,h4⟩ := h.1 rfl
 obtain ⟨k,hk,e⟩ := Hf.sy_of ls x h1 h2 (h15 x h1)
 refine ⟨k,hk,by rw [e]; exact h3,?_⟩
 rw [<- Hf.codes_get ls k hk,e]; exact h4
theorem Som.none {ls : List Nat} {l : List Bool} {p n : Nat} (h : Som ls (Hf.vb l p n) n ls.length false) (k : Nat) : ¬ Hf.Beg ls l p n k := by
 rintro ⟨h1,h2,h3⟩
 have hm := Hf.sy_mem ls k h1
 have := h.2 ⟨Hf.sy ls k,hm.1,hm.2.1,h2,by rw [Hf.codes_get ls k h1]; exact h3⟩
 cases this
theorem begins_is (c x V n : Nat) (r : Bool) (hx : x <= 15) (hn : n <= 15) (hr : Hid (r = (decide (n <= x) && decide (c / 2 ^ (x - n) = V)))) (w : World) :
  Calls Tryz.prog 193 #[.int .i64 (c : Int),.int .i64 (x : Int),.int .i64 (V : Int),.int .i64 (n : Int)] w fun e w' => e = .returned (.bool r) /\ w = w' := by
 by_cases h : n <= x
 ·have d1 : decide ((n : Int) <= (x : Int)) = true := decide_eq_true (by omega)
  have e1 : Hid (Value.bool ((c : Int) / 2 ^ (x - n) == (V : Int)) = .bool r) := by
   show _ = _
   have h2 : ((c : Int) / 2 ^ (x - n)) = ((c / 2 ^ (x - n) : Nat) : Int) := by rw [Int.natCast_ediv,Int.natCast_pow]; rfl
   rw [h2,hr.out,decide_eq_true h,Bool.true_and]
   congr 1
   rw [Bool.eq_iff_iff,beq_iff_eq,decide_eq_true_eq]
   omega
  clear hr
  go_enter Tryz.func193,Tryz.ntmps193
  go_wp2
  go_ret
  exact ⟨congrArg Ending.returned e1.out,rfl⟩
 ·have d1 : decide ((n : Int) <= (x : Int)) = false := decide_eq_false (by omega)
  have e1 : Hid (r = false) := by show _ = _; rw [hr.out,decide_eq_false h,Bool.false_and]
  clear hr
  go_enter Tryz.func193,Tryz.ntmps193
  go_wp2
  go_ret
  exact ⟨by rw [e1.out]; rfl,rfl⟩
theorem rread_ok (s2 : Value) (zs : List Int) (s : Value) (l : List Bool) (N p : Nat) (w : World) (hs : Sl w s (Bs.pack l)) (hz : Zl w s2 zs) (hl : Hid (N = l.length)) (hN : N <= 2251799813685248) (hp : p <= N) (hf : Fit zs) :
  Calls Tryz.prog 164 #[s2,.agg #[s,.int .i64 (N : Int)],.int .i64 (p : Int)] w (RdPost w (nat zs) l p) := by
 have HS := LH hs
 have HF := LH hf
 obtain ⟨b2,off2,cap2,rfl,hpos,h288,hb2,hcl⟩ := hf.valid.lsl hz (Nat.le_refl _)
 obtain ⟨len2,hlen⟩ : ∃ len2,len2 = (nat zs).length := ⟨_,rfl⟩
 rw [<- hlen] at hpos h288 hcl hz ⊢
 obtain ⟨a,len,cap,rfl,hl'⟩ := hs.shape
 have HLN := LH hlen
 have HCL := LH hcl
 have HR := LH (fun w' (h : Below w.heap.size w w') => rright_ok _ (Bs.pack l) N w' (hs.later h) (by omega) (by rw [hl.out]; exact Bs.pack_right l))
 have HCD := LH (fun w' (h : Below w.heap.size w w') => rcodes_ok zs _ w' (hz.later h) hf)
 unfold CodesPost at HCD
 have HCL2 : Hid (Unit -> (Hf.codes (nat zs)).length = len2) := by show Unit -> _ = _; intro _; rw [Hf.codes_length,hlen]
 have H15 : Hid (∀ i,i < (nat zs).length -> Hf.ln (nat zs) i <= 15) := fun i hi => hf.valid.le i hi
 have HPF := LH (fun _ : Unit => hf.pf)
 have B0 := LH (below1 w (.cells #[.slice a len cap,.int .i64 (N : Int)] 64))
 have X0 := LH (Has.new w (.cells #[.slice a len cap,.int .i64 (N : Int)] 64))
 have d1 : decide ((p : Int) < 0) = false := decide_eq_false (by omega)
 have d2 : decide ((N : Int) < (p : Int)) = false := decide_eq_false (by omega)
 clear hs hz hf hl' hlen hcl
 go_enter Tryz.func164,Tryz.ntmps164
 go_wp2_with fail
 refine (HR.out _ B0.out).mono ?_
 rintro e w1 ⟨rfl,hb1⟩
 have X1 := LH (X0.out.later hb1)
 obtain ⟨c0,c1,_,_⟩ := X1.out.two
 have B1 := LH (B0.out.trans (hb1.mono B0.out.size))
 clear hb1 X0 B0 HR
 go_wp2_with fail
 refine (HCD.out _ B1.out).mono ?_
 clear HCD
 rintro e w2 ⟨v,rfl,hv,hb⟩
 obtain ⟨g,capg,rfl,_,hrow⟩ := il_cell hv (by rw [HCL2.out ()]; exact hpos)
 rw [HCL2.out ()] at hrow ⊢
 have R2 := LH hrow
 have X2 := LH (X1.out.later hb)
 have B2 := LH (B1.out.trans (hb.mono B1.out.size))
 clear hb hv hrow X1 B1 c0 c1 d1 d2
 have HGL := R2.out.lt
 go_wp2_with fail
 go_loopw [2,11,12] (fun s2 s11 s12 wr => ∃ j V : Nat,j <= 15 /\ s12 = .int .i64 ((j : Int) + 1) /\ s2 = .int .i64 ((p : Int) + (j : Int)) /\ s11 = .int .i64 V /\ p + j <= N /\ V < 32768 /\ Hid (Unit -> V = Hf.vb l p j) /\ Hid (∀ r,Hf.Rd (nat zs) l p j r -> Hf.Rd (nat zs) l p 0 r) /\ Hid (Below w2.heap.size w2 wr)) (fun _ _ s _ => 16 - (intOf s).toNat)
 case atStart => exact ⟨0,0,by omega,by go_num,by go_num,rfl,by omega,by omega,(fun _ => rfl : Unit -> 0 = Hf.vb l p 0),fun r h => h,Below.refl _ _⟩
 case round =>
  obtain ⟨j,V,hj,rfl,rfl,rfl,hpj,hV,KV,KR,KB⟩ := hrel
  have KX := LH (X2.out.later KB.out)
  obtain ⟨c0,c1,_,_⟩ := KX.out.two
  have BW := LH (B2.out.trans (KB.out.mono B2.out.size))
  by_cases hj15 : j < 15
  ·by_cases hend : p + j = N
   ·have d1 : (((p : Int) + (j : Int)) == (N : Int)) = true := by rw [beq_iff_eq]; omega
    have RS := LH (fun _ : Unit => KR.out _ (.short j hj15 (by rw [<- hl.out]; exact hend)))
    clear hend
    go_wp2
    go_ret3
    exact ⟨(0,0,4),rfl,RS.out (),BW.out⟩
   ·have d1 : (((p : Int) + (j : Int)) == (N : Int)) = false := by rw [beq_eq_false_iff_ne]; omega
    obtain ⟨bt,hbt⟩ : ∃ bt,bt = (l[p + j]?.getD false).toNat := ⟨_,rfl⟩
    have hbt2 : bt < 2 := by rw [hbt]; exact Bool.toNat_lt _
    have HBIT : Hid (Calls Tryz.prog 163 #[.agg #[.slice a len cap,.int .i64 (N : Int)],.int .i64 ((p : Int) + (j : Int))] wr fun e w' => e = .returned (.int .i64 (bt : Int)) /\ Below wr.heap.size wr w') := by
     have h := rbit_row _ l (p + j) N wr (HS.out.later BW.out) (by have := hl.out; omega) (by have := hl.out; omega)
     rw [<- hbt,Int.natCast_add] at h
     exact h
    obtain ⟨V',hV'⟩ : ∃ V',V' = 2 * V + bt := ⟨_,rfl⟩
    have KV' : Hid (Unit -> V' = Hf.vb l p (j + 1)) := by
     show Unit -> _ = _
     intro _
     rw [hV',KV.out (),hbt]
     rfl
    have HV' := LH hV'
    have hV'2 : V' < 65536 := by omega
    have hpj2 : p + j < N := by omega
    clear hbt hV' hend
    go_wp2_with fail
    refine HBIT.out.mono ?_
    clear HBIT
    rintro e w3 ⟨rfl,hb3⟩
    have KB3 := LH (KB.out.trans (hb3.mono KB.out.size))
    clear hb3 c0 c1 KX BW KB
    go_wp2_with fail
    obtain ⟨n1,hn1⟩ : ∃ n1,n1 = j + 1 := ⟨_,rfl⟩
    obtain ⟨q,hq⟩ : ∃ q,q = p + j + 1 := ⟨_,rfl⟩
    have ev : 2 * (V : Int) + (bt : Int) = (V' : Int) := by rw [HV'.out]; simp
    have en : (j : Int) + 1 = (n1 : Int) := by omega
    have eq : (p : Int) + (j : Int) + 1 = (q : Int) := by omega
    rw [ev,en,eq]
    have HN1 := LH hn1
    have HQ := LH hq
    have hn15 : n1 <= 15 := by omega
    clear ev en eq hn1 hq KV
    rw [<- HN1.out] at KV'
    have KBI : Hid (Below w2.heap.size w2 w3) := KB3
    go_loopw [13,14] (fun s13 s14 wx => ∃ (i : Nat) (sm : Bool),i <= len2 /\ s14 = .int .i64 i /\ s13 = .bool sm /\ Hid (NoH (nat zs) V' n1 i) /\ Hid (Som (nat zs) V' n1 i sm) /\ Hid (Below w2.heap.size w2 wx)) (fun _ s _ => len2 - (intOf s).toNat)
    case atStart => exact ⟨0,false,Nat.zero_le _,rfl,rfl,NoH.zero _ _ _,Som.zero _ _ _,KBI⟩
    case round =>
     clear KB3 KBI
     obtain ⟨i,sm,hi,rfl,rfl,KN,KS,KI⟩ := hrel
     by_cases hlt : i < len2
     ·obtain ⟨x,hx⟩ : ∃ x,x = (nat zs)[i]?.getD 0 := ⟨_,rfl⟩
      obtain ⟨c,hc⟩ : ∃ c,c = (Hf.codes (nat zs))[i]?.getD 0 := ⟨_,rfl⟩
      have mL : wr.cell? ⟨b2,off2 + i,none⟩ = some (.int .i64 (x : Int)) := by
       rw [KI.out.cell (p := ⟨b2,off2 + i,none⟩) (Nat.lt_of_lt_of_le hb2 B2.out.size),B2.out.cell (p := ⟨b2,off2 + i,none⟩) hb2,HCL.out i hlt,<- hx]
      have mC : wr.cell? ⟨g,i,none⟩ = some (.int .i64 (c : Int)) := by
       rw [KI.out.cell (p := ⟨g,i,none⟩) HGL,R2.out.cell i hlt,<- hc]
      have hx15 : x <= 15 := by rw [hx]; exact H15.out i (by rw [<- HLN.out]; exact hlt)
      obtain ⟨r,hr⟩ : ∃ r,r = (decide (n1 <= x) && decide (c / 2 ^ (x - n1) = V')) := ⟨_,rfl⟩
      have NS := KS.out.step (show x = Hf.ln (nat zs) i from hx) hc
      rw [<- hr] at NS
      have NS := LH NS
      have HBG := LH (fun w' => begins_is c x V' n1 r hx15 hn15 hr w')
      have HX := LH (fun _ : Unit => hx)
      have HC := LH (fun _ : Unit => hc)
      have i1 : (0 : Int) <= (i : Int) := by omega
      have i2 : (i : Int) < (len2 : Int) := by omega
      clear hx hc hr KS
      by_cases gx : x = n1
      ·have e1 : ((x : Int) == (n1 : Int)) = true := by rw [beq_iff_eq]; omega
       by_cases gc : c = V'
       ·have e2 : ((c : Int) == (V' : Int)) = true := by rw [beq_iff_eq]; omega
        have RS : Hid (Unit -> Hf.Rd (nat zs) l p 0 (i,q,0)) := fun _ => by
         obtain ⟨k,hk1,hk2⟩ := hit_here (l := l) (p := p) (n := n1) (i := i) (by rw [<- HLN.out]; exact hlt) (by have := HN1.out; omega) hn15 (by rw [<- gx]; exact (HX.out ()).symm) (by rw [<- HC.out (),gc,KV'.out ()])
         rw [HN1.out] at hk2
         have h := Hf.Rd.hit j k hj15 (by have := hl.out; omega) hk2
         rw [hk1] at h
         rw [HQ.out]
         exact KR.out _ h
        clear gx gc NS HBG
        have BW := LH (B2.out.trans (KI.out.mono B2.out.size))
        go_wp2
        go_ret3
        exact ⟨(i,q,0),rfl,RS.out (),BW.out⟩
       ·have e2 : ((c : Int) == (V' : Int)) = false := by rw [beq_eq_false_iff_ne]; omega
        have NN : Hid (NoH (nat zs) V' n1 (i + 1)) := KN.out.step (HX.out ()) (HC.out ()) (fun h => gc h.2)
        clear gx gc KN
        cases sm with
        | true =>
         have NS2 : Hid (Som (nat zs) V' n1 (i + 1) true) := NS.out
         go_wp2
         go_quiet (fail)
         go_wp2
         exact ⟨⟨i + 1,true,by omega,by go_num,rfl,NN,NS2,below_drewN KI.out _⟩,by simp [intOf]; omega⟩
        | false =>
         by_cases hx0 : 0 < x
         ·have NS2 : Hid (Som (nat zs) V' n1 (i + 1) r) := by show Som _ _ _ _ _; have := NS.out; rw [decide_eq_true hx0] at this; simpa using this
          have e3 : decide ((0 : Int) < (x : Int)) = true := decide_eq_true (by omega)
          have e4 : decide (0 < x) = true := decide_eq_true hx0
          go_wp2
          go_quiet ((go_at_call 193; exact quiet_left (HBG.out _)))
          go_wp2
          exact ⟨⟨i + 1,r,by omega,by go_num,rfl,NN,NS2,below_drewN KI.out _⟩,by simp [intOf]; omega⟩
         ·have NS2 : Hid (Som (nat zs) V' n1 (i + 1) false) := by show Som _ _ _ _ _; have := NS.out; rw [decide_eq_false hx0] at this; simpa using this
          have e3 : decide ((0 : Int) < (x : Int)) = false := decide_eq_false (by omega)
          have e4 : decide (0 < x) = false := decide_eq_false hx0
          go_wp2
          go_quiet (fail)
          go_wp2
          exact ⟨⟨i + 1,false,by omega,by go_num,rfl,NN,NS2,below_drewN KI.out _⟩,by simp [intOf]; omega⟩
      ·have e1 : ((x : Int) == (n1 : Int)) = false := by rw [beq_eq_false_iff_ne]; omega
       have NN : Hid (NoH (nat zs) V' n1 (i + 1)) := KN.out.step (HX.out ()) (HC.out ()) (fun h => gx h.1)
       clear gx KN
       cases sm with
       | true =>
        have NS2 : Hid (Som (nat zs) V' n1 (i + 1) true) := NS.out
        go_wp2
        go_quiet (fail)
        go_wp2
        exact ⟨⟨i + 1,true,by omega,by go_num,rfl,NN,NS2,below_drewN KI.out _⟩,by simp [intOf]; omega⟩
       | false =>
        by_cases hx0 : 0 < x
        ·have NS2 : Hid (Som (nat zs) V' n1 (i + 1) r) := by show Som _ _ _ _ _; have := NS.out; rw [decide_eq_true hx0] at this; simpa using this
         have e3 : decide ((0 : Int) < (x : Int)) = true := decide_eq_true (by omega)
         have e4 : decide (0 < x) = true := decide_eq_true hx0
         go_wp2
         go_quiet ((go_at_call 193; exact quiet_left (HBG.out _)))
         go_wp2
         exact ⟨⟨i + 1,r,by omega,by go_num,rfl,NN,NS2,below_drewN KI.out _⟩,by simp [intOf]; omega⟩
        ·have NS2 : Hid (Som (nat zs) V' n1 (i + 1) false) := by show Som _ _ _ _ _; have := NS.out; rw [decide_eq_false hx0] at this; simpa using this
         have e3 : decide ((0 : Int) < (x : Int)) = false := decide_eq_false (by omega)
         have e4 : decide (0 < x) = false := decide_eq_false hx0
         go_wp2
         go_quiet (fail)
         go_wp2
         exact ⟨⟨i + 1,false,by omega,by go_num,rfl,NN,NS2,below_drewN KI.out _⟩,by simp [intOf]; omega⟩
     ·obtain rfl : i = len2 := by omega
      have BW := LH (B2.out.trans (KI.out.mono B2.out.size))
      have NH : Hid (Unit -> ∀ k,¬ Hf.Hit (nat zs) l p (j + 1) k) := fun _ => by
       have h := KN.out
       rw [KV'.out (),HLN.out] at h
       rw [<- HN1.out]
       exact h.none
      cases sm with
      | true =>
       have KR2 : Hid (∀ r,Hf.Rd (nat zs) l p (j + 1) r -> Hf.Rd (nat zs) l p 0 r) := fun r hr => by
        have h := KS.out
        rw [KV'.out (),HLN.out] at h
        obtain ⟨k,hk⟩ := h.some H15.out
        rw [HN1.out] at hk
        exact KR.out _ (.next j k r hj15 (by have := hl.out; omega) (NH.out ()) hk hr)
       have hpq : (q : Int) = (p : Int) + ((j + 1 : Nat) : Int) := by have := HQ.out; omega
       have hnq : (n1 : Int) = ((j + 1 : Nat) : Int) := by have := HN1.out; omega
       have KV2 : Hid (Unit -> V' = Hf.vb l p (j + 1)) := by have := HN1.out; rw [<- this]; exact KV'
       have hj1 : j + 1 <= 15 := by omega
       have hV2 : V' < 32768 := by
        have h1 := Hf.vb_lt l p (j + 1)
        have h2 : 2 ^ (j + 1) <= 2 ^ 15 := Nat.pow_le_pow_right (by omega) hj1
        rw [<- KV2.out ()] at h1
        omega
       have HPQ := LH hpq
       have HNQ := LH hnq
       clear hpq hnq
       go_wp2
       exact ⟨⟨j + 1,V',hj1,by rw [HNQ.out],by rw [HPQ.out],rfl,by omega,hV2,KV2,KR2,KI⟩,by simp [intOf]; have := HN1.out; omega⟩
      | false =>
       have RS : Hid (Unit -> Hf.Rd (nat zs) l p 0 (0,0,13)) := fun _ => by
        have h := KS.out
        rw [KV'.out (),HLN.out] at h
        refine KR.out _ (.miss j hj15 (by have := hl.out; omega) (NH.out ()) ?_)
        rw [<- HN1.out]
        exact h.none
       go_wp2
       go_ret3
       exact ⟨(0,0,13),rfl,RS.out (),BW.out⟩
  ·obtain rfl : j = 15 := by omega
   have RS := LH (fun _ : Unit => KR.out _ .last)
   go_wp2
   go_ret3
   exact ⟨(0,0,13),rfl,RS.out (),BW.out⟩
end
end Go.Proofs.YtmgpcbjciioiaaaGreatDoor
