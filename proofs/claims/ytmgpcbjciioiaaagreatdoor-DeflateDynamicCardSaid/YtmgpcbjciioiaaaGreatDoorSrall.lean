import Derived.Test.YtmgpcbjciioiaaaGreatDoorIas2
import Derived.Test.YtmgpcbjciioiaaaGreatDoorLplain
namespace Go.Proofs.YtmgpcbjciioiaaaGreatDoor
set_option maxRecDepth 100000
set_option maxHeartbeats 8000000
section
open Go.RowKit
def numS (l : List Nat) : List Value := l.map fun (x : Nat) => Value.int .i64 (x : Int)
def Tbs (w : World) (b : Nat) (l : List Nat) : Prop := b < w.heap.size /\ ∀ i,i < l.length -> w.cell? ⟨b,i,none⟩ = some (.int .i64 (Sy.at' l i : Nat))
theorem Tbs.later {w w' : World} {b : Nat} {l : List Nat} (h : Tbs w b l) (hb : Below w.heap.size w w') : Tbs w' b l :=
 ⟨Nat.lt_of_lt_of_le h.1 hb.size,fun i hi => (hb.cell (p := ⟨b,i,none⟩) h.1).trans (h.2 i hi)⟩
theorem Tbs.of {w : World} {b : Nat} {cs : Array Value} {t : TypeId} {l : List Nat} (h : Has w b (.cells cs t (0,0))) (hc : cs = (numS l).toArray) : Tbs w b l := by
 refine ⟨h.lt,fun i hi => ?_⟩
 rw [h.cell,hc]
 simp [numS,Sy.at',hi]
def Tabs (l1 l2 : List Nat) (N : Nat) (w : World) (e : Ending) (w' : World) : Prop :=
 ∃ b1 b2,e = .returned (.tuple #[.slice (some ⟨b1,0,none⟩) N N,.slice (some ⟨b2,0,none⟩) N N]) /\ Tbs w' b1 l1 /\ Tbs w' b2 l2 /\ Below w.heap.size w w'
theorem has2 (w : World) (o1 o2 : Obj) : Has ((w.alloc o1).alloc o2) (w.heap.size + 1) o2 := (facts2 (Below.refl _ ((w.alloc o1).alloc o2))).2.1
theorem rlens_is (w : World) : Calls Tryz.prog 70 #[] w (Tabs Sy.lf Sy.lb 29 w) := by
 go_enter Tryz.func70,Tryz.ntmps70
 go_wp2
 go_ret2
 exact ⟨_,_,rfl,Tbs.of ((Has.new w _).alloc _) rfl,Tbs.of (has2 w _ _) rfl,below2 w _ _⟩
theorem rdists_is (w : World) : Calls Tryz.prog 72 #[] w (Tabs Sy.df Sy.db 30 w) := by
 go_enter Tryz.func72,Tryz.ntmps72
 go_wp2
 go_ret2
 exact ⟨_,_,rfl,Tbs.of ((Has.new w _).alloc _) rfl,Tbs.of (has2 w _ _) rfl,below2 w _ _⟩
end
section
open Go.RowKit
theorem rlbit_go (s : Int) (w : World) : Calls Tryz.prog 38 #[.int .i64 s] w (Two (Sy.lbitA s).1 (Sy.lbitA s).2 w) := by
 unfold Sy.lbitA
 by_cases h1 : s < 257
 ·rw [if_neg (by omega)]
  have d1 : decide (s < 257) = true := decide_eq_true h1
  clear h1
  go_enter Tryz.func38,Tryz.ntmps38
  go_wp2_with fail
  go_ret2
  exact ⟨rfl,Below.refl _ _⟩
 ·have d1 : decide (s < 257) = false := decide_eq_false h1
  by_cases h2 : 285 < s
  ·rw [if_neg (by omega)]
   have d2 : decide (285 < s) = true := decide_eq_true h2
   clear h1 h2
   go_enter Tryz.func38,Tryz.ntmps38
   go_wp2_with fail
   go_ret2
   exact ⟨rfl,Below.refl _ _⟩
  ·rw [if_pos (by omega)]
   have d2 : decide (285 < s) = false := decide_eq_false h2
   obtain ⟨k,rfl⟩ : ∃ k : Nat,s = 257 + (k : Int) := ⟨(s - 257).toNat,by omega⟩
   have ek : (257 + (k : Int) - 257).toNat = k := by omega
   rw [ek]
   have hk1 : k < 29 := by omega
   have hk2 : 257 + (k : Int) - 257 = (k : Int) := by omega
   have HW := LH (fun w => rlens_is w)
   clear h1 h2 ek
   go_enter Tryz.func38,Tryz.ntmps38
   go_wp2_with fail
   refine (HW.out _).mono ?_
   rintro e w1 ⟨b1,b2,rfl,t1,t2,hb⟩
   have hc := t2.2 k hk1
   have HB := LH hb
   clear t1 t2 hb
   go_wp2_with fail
   go_ret2
   exact ⟨rfl,HB.out⟩
theorem rlnum_go (s v : Int) (w : World) (hi : v <= 9223372036854775807) : Calls Tryz.prog 165 #[.int .i64 s,.int .i64 v] w (Two (Sy.lnumA s v).1 (Sy.lnumA s v).2 w) := by
 have HL := fun w => rlbit_go s w
 unfold Sy.lbitA at HL
 unfold Sy.lnumA
 by_cases h : 257 <= s /\ s <= 285
 ·rw [if_pos h] at HL ⊢
  obtain ⟨k,rfl⟩ : ∃ k : Nat,s = 257 + (k : Int) := ⟨(s - 257).toNat,by omega⟩
  have ek : (257 + (k : Int) - 257).toNat = k := by omega
  rw [ek] at HL ⊢
  have hk1 : k < 29 := by omega
  have hb5 := Sy.lb_le k hk1
  have hle := Sy.lf_le k hk1
  obtain ⟨b,eb⟩ : ∃ b,b = Sy.at' Sy.lb k := ⟨_,rfl⟩
  rw [<- eb] at HL hb5 hle ⊢
  have hp := pow_is b (by omega)
  obtain ⟨p,ep⟩ : ∃ p : Nat,p = 2 ^ b := ⟨_,rfl⟩
  rw [<- ep] at hp hle ⊢
  have H := LH HL
  clear HL ek eb ep
  by_cases h1 : v < 0
  ·rw [if_neg (by omega)]
   have d1 : decide (v < 0) = true := decide_eq_true h1
   clear h1
   go_enter Tryz.func165,Tryz.ntmps165
   go_wp2_with fail
   refine (H.out _).mono ?_
   rintro e w1 ⟨rfl,hb⟩
   have HB := LH hb
   clear hb
   go_wp2_with fail
   go_ret2
   exact ⟨rfl,HB.out⟩
  ·have d1 : decide (v < 0) = false := decide_eq_false h1
   obtain ⟨m,rfl⟩ : ∃ m : Nat,v = (m : Int) := ⟨v.toNat,by omega⟩
   rw [Int.toNat_natCast]
   by_cases h2 : p <= m
   ·rw [if_neg (by omega)]
    have d2 : decide ((p : Int) <= (m : Int)) = true := decide_eq_true (by omega)
    have d2' : decide (p <= m) = true := decide_eq_true h2
    clear h1 h2
    go_enter Tryz.func165,Tryz.ntmps165
    go_wp2_with fail
    refine (H.out _).mono ?_
    rintro e w1 ⟨rfl,hb⟩
    have HB := LH hb
    clear hb
    go_wp2_with fail
    go_ret2
    exact ⟨rfl,HB.out⟩
   ·rw [if_pos (by omega)]
    have d2 : decide ((p : Int) <= (m : Int)) = false := decide_eq_false (by omega)
    have d2' : decide (p <= m) = false := decide_eq_false h2
    have hk2 : 257 + (k : Int) - 257 = (k : Int) := by omega
    have HW := LH (fun w => rlens_is w)
    obtain ⟨x,ex⟩ : ∃ x,x = Sy.at' Sy.lf k := ⟨_,rfl⟩
    rw [<- ex] at hle ⊢
    have EX := LH ex
    have hle2 := hle.2
    have hmp : m < p := by omega
    clear h1 h2 h ex hle
    go_enter Tryz.func165,Tryz.ntmps165
    go_wp2_with fail
    refine (H.out _).mono ?_
    rintro e w1 ⟨rfl,hb⟩
    have HB := LH hb
    clear hb
    go_wp2_with fail
    refine (HW.out _).mono ?_
    rintro e w2 ⟨b1,b2,rfl,t1,t2,hb⟩
    have hc := t1.2 k hk1
    rw [<- EX.out] at hc
    have HB2 := LH (HB.out.trans (hb.mono HB.out.size))
    clear t1 t2 hb
    go_wp2_with fail
    go_ret2
    exact ⟨by first | rfl | go_num,HB2.out⟩
 ·rw [if_neg h] at HL ⊢
  have H := LH HL
  clear HL h
  go_enter Tryz.func165,Tryz.ntmps165
  go_wp2_with fail
  refine (H.out _).mono ?_
  rintro e w1 ⟨rfl,hb⟩
  have HB := LH hb
  clear hb
  go_wp2_with fail
  go_ret2
  exact ⟨rfl,HB.out⟩
theorem rdbit_go (s : Int) (w : World) : Calls Tryz.prog 40 #[.int .i64 s] w (Two (Sy.dbitA s).1 (Sy.dbitA s).2 w) := by
 unfold Sy.dbitA
 by_cases h1 : s < 0
 ·rw [if_neg (by omega)]
  have d1 : decide (s < 0) = true := decide_eq_true h1
  clear h1
  go_enter Tryz.func40,Tryz.ntmps40
  go_wp2_with fail
  go_ret2
  exact ⟨rfl,Below.refl _ _⟩
 ·have d1 : decide (s < 0) = false := decide_eq_false h1
  by_cases h2 : 29 < s
  ·rw [if_neg (by omega)]
   have d2 : decide (29 < s) = true := decide_eq_true h2
   clear h1 h2
   go_enter Tryz.func40,Tryz.ntmps40
   go_wp2_with fail
   go_ret2
   exact ⟨rfl,Below.refl _ _⟩
  ·rw [if_pos (by omega)]
   have d2 : decide (29 < s) = false := decide_eq_false h2
   obtain ⟨k,rfl⟩ : ∃ k : Nat,s = (k : Int) := ⟨s.toNat,by omega⟩
   have ek : (k : Int).toNat = k := by omega
   rw [ek]
   have hk1 : k < 30 := by omega
   have HW := LH (fun w => rdists_is w)
   clear h1 h2 ek
   go_enter Tryz.func40,Tryz.ntmps40
   go_wp2_with fail
   refine (HW.out _).mono ?_
   rintro e w1 ⟨b1,b2,rfl,t1,t2,hb⟩
   have hc := t2.2 k hk1
   have HB := LH hb
   clear t1 t2 hb
   go_wp2_with fail
   go_ret2
   exact ⟨rfl,HB.out⟩
theorem rdnum_go (s v : Int) (w : World) (hi : v <= 9223372036854775807) : Calls Tryz.prog 166 #[.int .i64 s,.int .i64 v] w (Two (Sy.dnumA s v).1 (Sy.dnumA s v).2 w) := by
 have HL := fun w => rdbit_go s w
 unfold Sy.dbitA at HL
 unfold Sy.dnumA
 by_cases h : 0 <= s /\ s <= 29
 ·rw [if_pos h] at HL ⊢
  obtain ⟨k,rfl⟩ : ∃ k : Nat,s = (k : Int) := ⟨s.toNat,by omega⟩
  have ek : (k : Int).toNat = k := by omega
  rw [ek] at HL ⊢
  have hk1 : k < 30 := by omega
  have hb5 := Sy.db_le k hk1
  have hle := Sy.df_le k hk1
  obtain ⟨b,eb⟩ : ∃ b,b = Sy.at' Sy.db k := ⟨_,rfl⟩
  rw [<- eb] at HL hb5 hle ⊢
  have hp := pow_is b (by omega)
  obtain ⟨p,ep⟩ : ∃ p : Nat,p = 2 ^ b := ⟨_,rfl⟩
  rw [<- ep] at hp hle ⊢
  have H := LH HL
  clear HL ek eb ep
  by_cases h1 : v < 0
  ·rw [if_neg (by omega)]
   have d1 : decide (v < 0) = true := decide_eq_true h1
   clear h1
   go_enter Tryz.func166,Tryz.ntmps166
   go_wp2_with fail
   refine (H.out _).mono ?_
   rintro e w1 ⟨rfl,hb⟩
   have HB := LH hb
   clear hb
   go_wp2_with fail
   go_ret2
   exact ⟨rfl,HB.out⟩
  ·have d1 : decide (v < 0) = false := decide_eq_false h1
   obtain ⟨m,rfl⟩ : ∃ m : Nat,v = (m : Int) := ⟨v.toNat,by omega⟩
   rw [Int.toNat_natCast]
   by_cases h2 : p <= m
   ·rw [if_neg (by omega)]
    have d2 : decide ((p : Int) <= (m : Int)) = true := decide_eq_true (by omega)
    have d2' : decide (p <= m) = true := decide_eq_true h2
    clear h1 h2
    go_enter Tryz.func166,Tryz.ntmps166
    go_wp2_with fail
    refine (H.out _).mono ?_
    rintro e w1 ⟨rfl,hb⟩
    have HB := LH hb
    clear hb
    go_wp2_with fail
    go_ret2
    exact ⟨rfl,HB.out⟩
   ·rw [if_pos (by omega)]
    have d2 : decide ((p : Int) <= (m : Int)) = false := decide_eq_false (by omega)
    have d2' : decide (p <= m) = false := decide_eq_false h2
    have HW := LH (fun w => rdists_is w)
    obtain ⟨x,ex⟩ : ∃ x,x = Sy.at' Sy.df k := ⟨_,rfl⟩
    rw [<- ex] at hle ⊢
    have EX := LH ex
    have hle2 := hle.2
    have hmp : m < p := by omega
    clear h1 h2 h ex hle
    go_enter Tryz.func166,Tryz.ntmps166
    go_wp2_with fail
    refine (H.out _).mono ?_
    rintro e w1 ⟨rfl,hb⟩
    have HB := LH hb
    clear hb
    go_wp2_with fail
    refine (HW.out _).mono ?_
    rintro e w2 ⟨b1,b2,rfl,t1,t2,hb⟩
    have hc := t1.2 k hk1
    rw [<- EX.out] at hc
    have HB2 := LH (HB.out.trans (hb.mono HB.out.size))
    clear t1 t2 hb
    go_wp2_with fail
    go_ret2
    exact ⟨by first | rfl | go_num,HB2.out⟩
 ·rw [if_neg h] at HL ⊢
  have H := LH HL
  clear HL h
  go_enter Tryz.func166,Tryz.ntmps166
  go_wp2_with fail
  refine (H.out _).mono ?_
  rintro e w1 ⟨rfl,hb⟩
  have HB := LH hb
  clear hb
  go_wp2_with fail
  go_ret2
  exact ⟨rfl,HB.out⟩
end
end Go.Proofs.YtmgpcbjciioiaaaGreatDoor
