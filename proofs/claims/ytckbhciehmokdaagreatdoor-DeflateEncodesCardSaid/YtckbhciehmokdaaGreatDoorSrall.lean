import Derived.Test.YtckbhciehmokdaaGreatDoorDcod
import Derived.Test.YtckbhciehmokdaaGreatDoorIfix
import Derived.Test.YtckbhciehmokdaaGreatDoorSref
namespace Go.Proofs.YtckbhciehmokdaaGreatDoor
set_option maxRecDepth 100000
set_option maxHeartbeats 8000000
open Go.RowKit
theorem Lx.code {w0 w wi : World} {T : Nat} {tv : Value} {l : List Bool} {c : Value} {ls : List Nat} (h : Lx w0 w tv wi T l) (hc : Cdr T tv w c ls) : ∃ E A B gA gB cA cB, c = CF E A B /\ Cd wi E A B gA gB cA cB ls := by
 obtain ⟨tvi, h1, h2⟩ := h
 obtain ⟨E, A, B, gA, gB, cA, cB, rfl, h3, _⟩ := hc.step h2
 exact ⟨E, A, B, gA, gB, cA, cB, rfl, h3⟩
theorem Lx.cd {w0 w wi : World} {T : Nat} {tv : Value} {l : List Bool} {E A B gA gB cA cB : Nat} {ls : List Nat} (h : Lx w0 w tv wi T l) (hc : Cd w E A B gA gB cA cB ls) (hf : ∀ k, k = E ∨ k = A ∨ k = B ∨ k = gA ∨ k = gB -> Fb T tv w k) : Cd wi E A B gA gB cA cB ls := by
 obtain ⟨tvi, h1, h2⟩ := h
 exact hc.same fun k hk => ((hf k hk).step h2).2
def scaBits (ls : List Nat) (sym v n : Nat) : List Bool := cw ls sym ++ Bs.bitsOf v n
theorem scaled_lay {w0 w : World} {T : Nat} {tv : Value} {l : List Bool} (h : Ly w0 w T tv l) (E A B gA gB cA cB : Nat) (ls : List Nat) (hc : Cd w E A B gA gB cA cB ls) (hk : ∀ k, k = E ∨ k = A ∨ k = B ∨ k = gA ∨ k = gB -> Fb T tv w k) (hf : Fit (Hd.zz ls)) (q sym v n : Nat) (h0 : Hf.ln ls sym ≠ 0) (hn : n <= 15) (hv : v < 2 ^ n)
  (O G : FuncId) (hO : ∀ (args : Array Value) (wx : World), (callFunc O args).run Tryz.prog wx = .ok (.enter O args) wx) (hG : ∀ (args : Array Value) (wx : World), (callFunc G args).run Tryz.prog wx = .ok (.enter G args) wx)
  (ho : ∀ W, Calls Tryz.prog O #[.int .i64 (q : Int)] W fun e w' => e = .returned (.tuple #[.int .i64 (sym : Int), .int .i64 (v : Int), .int .i64 0]) /\ Below W.heap.size W w')
  (hg : ∀ W, Calls Tryz.prog G #[.int .i64 (sym : Int)] W fun e w' => e = .returned (.tuple #[.int .i64 (n : Int), .int .i64 0]) /\ Below W.heap.size W w') (h9 : l.length <= 10000000) :
  Calls Tryz.prog 61 #[LF T, CF E A B, .int .i64 (q : Int), .func (.func O) #[] #[], .func (.func G) #[] #[]] w (LayPost w0 w T tv (l ++ scaBits ls sym v n)) := by
 have hln := (fit_code hf h0).2.2
 have H0 := LH (Lx.start h)
 have HC := LH (fun (wi : World) (li : List Bool) (hx : Lx w0 w tv wi T li) => code_lay (hx.cd hc hk) hf sym h0)
 have HO := LH ho
 have HG := LH hg
 obtain ⟨L, hL⟩ : ∃ L, L = Hf.ln ls sym := ⟨_, rfl⟩
 have HL := LH hL
 rw [<- hL] at HC hln
 clear h hc hk hf h0 ho hg hL
 go_enter Tryz.func61, Tryz.ntmps61
 go_wp2_with fail
 refine (HO.out _).mono ?_
 rintro e w1 ⟨rfl, hb1⟩
 have H1 := LH (H0.out.later hb1)
 clear hb1 H0 HO
 go_wp2_with fail
 refine (HC.out _ _ H1.out).mono ?_
 rintro e w2 ⟨a2, m2, c2, rfl, hs2, hb2⟩
 have HY := LH ((H1.out.later hb2).lay _ _ L hs2 (by show L = _; rw [Bs.bitsOf_length]) (by omega))
 clear HC hs2 hb2 H1
 go_wp2_with fail
 refine HY.out.mono ?_
 rintro e w3 ⟨rfl, h3⟩
 have H3 := LH h3
 clear HY h3
 go_wp2_with fail
 refine (HG.out _).mono ?_
 rintro e w4 ⟨rfl, hb4⟩
 have H4 := LH (H3.out.later hb4)
 have HN := LH (number_lay v n w4 (by omega) hv)
 clear hb4 H3 HG
 go_wp2_with fail
 refine HN.out.mono ?_
 rintro e w5 ⟨a5, m5, c5, rfl, hs5, hb5⟩
 have HY := LH ((H4.out.later hb5).lay _ _ n hs5 (by show n = _; rw [Bs.bitsOf_length]) (by rw [List.length_append, Bs.bitsOf_length]; omega))
 clear HN hs5 hb5 H4
 go_wp2_with fail
 refine HY.out.mono ?_
 rintro e w6 ⟨rfl, h6⟩
 rw [List.append_assoc, HL.out] at h6
 have H6 := LH h6
 clear HY h6
 go_wp2
 exact ⟨rfl, .tuple #[], by simp [results, Tryz.results61, go_sem], H6.out.post⟩
end Go.Proofs.YtckbhciehmokdaaGreatDoor
namespace Go.Proofs.YtckbhciehmokdaaGreatDoor
set_option maxRecDepth 100000
set_option maxHeartbeats 8000000
open Go.RowKit
def boxes (w : World) : World := ((w.alloc (.cells #[.slice none 0 0] 22)).alloc (.cells #[.slice none 0 0, .int .i64 0] 64)).alloc (.cells #[.int .i64 0] 23)
theorem boxes_ly (w : World) : Ly w (boxes w) w.heap.size (.slice none 0 0) [] := by
 have h1 := Has.new w (.cells #[.slice none 0 0] 22)
 have h2 := Has.new (w.alloc (.cells #[.slice none 0 0] 22)) (.cells #[.slice none 0 0, .int .i64 0] 64)
 have h3 := Has.new ((w.alloc (.cells #[.slice none 0 0] 22)).alloc (.cells #[.slice none 0 0, .int .i64 0] 64)) (.cells #[.int .i64 0] 23)
 refine ⟨by show Has _ (w.heap.size + 1 + 1) _; unfold boxes; simpa using h3, ⟨none, 0, 0, by show Has _ (w.heap.size + 1) (rowVar none 0 0 0); unfold boxes; simpa using h2.alloc (.cells #[.int .i64 0] 23), Sl.nil _, Nat.le_refl _⟩, ⟨(h1.alloc _).alloc _, ⟨rfl, Or.inl ⟨rfl, rfl⟩⟩⟩, (below2 w _ _).alloc (by simp; omega) _, by simp⟩
theorem app_any (w : World) (base n : Nat) (v : Value) (bs : List Nat) (hown : w.ownsRow base 5 1 v n (vb bs)) (a : Option Addr) (m c : Nat) (ms : List Nat) (ty : TypeId) (hs : Sl w (.slice a m c) ms) (h1 : n <= 1000000000) (h2 : m <= 1000000000) (hb : base <= w.heap.size) :
  ∃ v' w', (Builtin.append_ #[22, 22] ty #[v, .slice a m c]).run Tryz.prog w = .ok v' w' /\ w'.ownsRow base 5 1 v' (n + m) (vb (bs ++ ms)) /\ w.grownBy w' v.ownBlock := by
 obtain ⟨i0, hi, hz0, hz1, hz2⟩ := info_parts Tryz.infoU8
 cases a with
 | none =>
  have h0 := (hs.len.2.2 rfl)
  obtain ⟨rfl, rfl⟩ := h0
  have hms : ms = [] := List.eq_nil_of_length_eq_zero hs.len.1.symm
  subst hms
  exact ⟨v, w, run_append_owned_none (P := Tryz.prog) w base 22 ty 5 i0 1 Tryz.underlying22 hi v n (vb bs) hown, by rw [List.append_nil]; exact hown, World.grownBy_refl' w _⟩
 | some ad =>
  obtain ⟨v', w', hrun, r1, r2, _⟩ := run_append_own (P := Tryz.prog) w base 22 ty 5 i0 (.int .u8 0) 1 1 Tryz.underlying22 hi hz0 hz1 hz2 rfl (by decide) v n (vb bs) hown ad m c (vb ms) (by rw [vb_length]; have := hs.len.1; omega)
   (fun j u hj => by
    have hlt := (List.getElem?_eq_some_iff.1 hj).1
    rw [vb_length] at hlt
    obtain ⟨ad', he, h⟩ := hs.cells (by have := hs.len.1; omega)
    injection he with he
    subst he
    exact h j u hj) (oneCell_vb _) (by unfold maxLen; omega) (by omega) hb
  exact ⟨v', w', hrun, by rw [vb_append]; exact r1, r2⟩
def StrPost (w : World) (bs : List Nat) (e : Ending) (w' : World) : Prop := ∃ v, e = .returned (.tuple #[v, .int .i64 0]) /\ w'.ownsRow w.heap.size 5 1 v bs.length (vb bs) /\ Below w.heap.size w w'
theorem stream_ok (F : FuncId) (caps : Array Value) (hcall : ∀ (args : Array Value) (wx : World), (callFunc F args).run Tryz.prog wx = .ok (.enter F args) wx) (w : World) (l : List Bool)
  (hw : Calls Tryz.prog F (#[LF w.heap.size] ++ caps) (boxes w) (LayPost w (boxes w) w.heap.size (.slice none 0 0) l)) :
  Calls Tryz.prog 25 #[.func (.func F) #[] caps] w (StrPost w (Bs.pack l)) := by
 have HW := LH hw
 clear hw
 go_enter Tryz.func25, Tryz.ntmps25
 go_wp2_with fail
 refine (show Calls Tryz.prog F (#[LF w.heap.size] ++ caps) (boxes w) _ from HW.out).mono ?_
 clear HW
 rintro e w3 ⟨rfl, tv, hl, _⟩
 have hb := hl.b
 obtain ⟨ra, rm, rc, hr, hrs, hrc⟩ := hl.r
 obtain ⟨ht, hto⟩ := hl.t
 obtain ⟨d0, _⟩ := (show Has w3 (w.heap.size + 1 + 1) _ from hl.f).one
 obtain ⟨c0, _, _, _⟩ := hr.two
 obtain ⟨t0, _⟩ := ht.one
 have hn := hl.n
 have hsz3 : w.heap.size <= w3.heap.size := by have := hl.f.lt; omega
 have hrl := hrs.len.1
 rw [Bs.pack_length, Bs.rest_length] at hrl
 obtain ⟨v', w4, hrun, hown, hg⟩ := app_any w3 w.heap.size (l.length / 8) tv _ hto ra rm rc _ 22 hrs (by omega) (by omega) hsz3
 have e1 : l.length / 8 + rm = (Bs.pack l).length := by rw [Bs.pack_length]; omega
 rw [Bs.whole_rest, e1] at hown
 obtain ⟨av, cv, rfl⟩ := own_slice hown
 obtain ⟨at', ct, rfl⟩ := own_slice hto
 have HRUN := LH hrun
 have HOWN := LH hown
 have HB := LH (hb.grown hg hsz3 (fun q hq => (World.ownsRow.lt hto q hq).1))
 obtain ⟨pl, hpl⟩ : ∃ pl, pl = (Bs.pack l).length := ⟨_, rfl⟩
 rw [<- hpl] at HOWN HRUN
 have HPL := LH hpl
 clear hpl
 clear hl hb hr hrs hrc ht hto hn hrl hrun hown hg e1
 go_wp2_with (at_builtin; (refine wpList_append_is rfl (.tmp 13) (.tmp 15) 22 rfl _ _ _ _ rfl rfl HRUN.out ?_))
 refine bodyPost_ret (v := .tuple #[.slice av pl cv, .int .i64 0]) (by simp [results, Tryz.results25, go_sem]) rfl ⟨_, rfl, by rw [<- HPL.out]; exact HOWN.out, HB.out⟩
end Go.Proofs.YtckbhciehmokdaaGreatDoor
namespace Go.Proofs.YtckbhciehmokdaaGreatDoor
set_option maxRecDepth 100000
set_option maxHeartbeats 8000000
open Go.RowKit
theorem rlbit_go (s : Int) (w : World) : Calls Tryz.prog 38 #[.int .i64 s] w (Two (Sy.lbitA s).1 (Sy.lbitA s).2 w) := by
 unfold Sy.lbitA
 by_cases h1 : s < 257
 ·rw [if_neg (by omega)]
  have d1 : decide (s < 257) = true := decide_eq_true h1
  clear h1
  go_enter Tryz.func38, Tryz.ntmps38
  go_wp2_with fail
  go_ret2
  exact ⟨rfl, Below.refl _ _⟩
 ·have d1 : decide (s < 257) = false := decide_eq_false h1
  by_cases h2 : 285 < s
  ·rw [if_neg (by omega)]
   have d2 : decide (285 < s) = true := decide_eq_true h2
   clear h1 h2
   go_enter Tryz.func38, Tryz.ntmps38
   go_wp2_with fail
   go_ret2
   exact ⟨rfl, Below.refl _ _⟩
  ·rw [if_pos (by omega)]
   have d2 : decide (285 < s) = false := decide_eq_false h2
   obtain ⟨k, rfl⟩ : ∃ k : Nat, s = 257 + (k : Int) := ⟨(s - 257).toNat, by omega⟩
   have ek : (257 + (k : Int) - 257).toNat = k := by omega
   rw [ek]
   have hk1 : k < 29 := by omega
   have hk2 : 257 + (k : Int) - 257 = (k : Int) := by omega
   have HW := LH (fun w => rlens_is w)
   clear h1 h2 ek
   go_enter Tryz.func38, Tryz.ntmps38
   go_wp2_with fail
   refine (HW.out _).mono ?_
   rintro e w1 ⟨b1, b2, rfl, t1, t2, hb⟩
   have hc := t2.2 k hk1
   have HB := LH hb
   clear t1 t2 hb
   go_wp2_with fail
   go_ret2
   exact ⟨rfl, HB.out⟩
theorem rlnum_go (s v : Int) (w : World) (hi : v <= 9223372036854775807) : Calls Tryz.prog 165 #[.int .i64 s, .int .i64 v] w (Two (Sy.lnumA s v).1 (Sy.lnumA s v).2 w) := by
 have HL := fun w => rlbit_go s w
 unfold Sy.lbitA at HL
 unfold Sy.lnumA
 by_cases h : 257 <= s /\ s <= 285
 ·rw [if_pos h] at HL ⊢
  obtain ⟨k, rfl⟩ : ∃ k : Nat, s = 257 + (k : Int) := ⟨(s - 257).toNat, by omega⟩
  have ek : (257 + (k : Int) - 257).toNat = k := by omega
  rw [ek] at HL ⊢
  have hk1 : k < 29 := by omega
  have hb5 := Sy.lb_le k hk1
  have hle := Sy.lf_le k hk1
  obtain ⟨b, eb⟩ : ∃ b, b = Sy.at' Sy.lb k := ⟨_, rfl⟩
  rw [<- eb] at HL hb5 hle ⊢
  have hp := pow_is b (by omega)
  obtain ⟨p, ep⟩ : ∃ p : Nat, p = 2 ^ b := ⟨_, rfl⟩
  rw [<- ep] at hp hle ⊢
  have H := LH HL
  clear HL ek eb ep
  by_cases h1 : v < 0
  ·rw [if_neg (by omega)]
   have d1 : decide (v < 0) = true := decide_eq_true h1
   clear h1
   go_enter Tryz.func165, Tryz.ntmps165
   go_wp2_with fail
   refine (H.out _).mono ?_
   rintro e w1 ⟨rfl, hb⟩
   have HB := LH hb
   clear hb
   go_wp2_with fail
   go_ret2
   exact ⟨rfl, HB.out⟩
  ·have d1 : decide (v < 0) = false := decide_eq_false h1
   obtain ⟨m, rfl⟩ : ∃ m : Nat, v = (m : Int) := ⟨v.toNat, by omega⟩
   rw [Int.toNat_natCast]
   by_cases h2 : p <= m
   ·rw [if_neg (by omega)]
    have d2 : decide ((p : Int) <= (m : Int)) = true := decide_eq_true (by omega)
    have d2' : decide (p <= m) = true := decide_eq_true h2
    clear h1 h2
    go_enter Tryz.func165, Tryz.ntmps165
    go_wp2_with fail
    refine (H.out _).mono ?_
    rintro e w1 ⟨rfl, hb⟩
    have HB := LH hb
    clear hb
    go_wp2_with fail
    go_ret2
    exact ⟨rfl, HB.out⟩
   ·rw [if_pos (by omega)]
    have d2 : decide ((p : Int) <= (m : Int)) = false := decide_eq_false (by omega)
    have d2' : decide (p <= m) = false := decide_eq_false h2
    have hk2 : 257 + (k : Int) - 257 = (k : Int) := by omega
    have HW := LH (fun w => rlens_is w)
    obtain ⟨x, ex⟩ : ∃ x, x = Sy.at' Sy.lf k := ⟨_, rfl⟩
    rw [<- ex] at hle ⊢
    have EX := LH ex
    have hle2 := hle.2
    have hmp : m < p := by omega
    clear h1 h2 h ex hle
    go_enter Tryz.func165, Tryz.ntmps165
    go_wp2_with fail
    refine (H.out _).mono ?_
    rintro e w1 ⟨rfl, hb⟩
    have HB := LH hb
    clear hb
    go_wp2_with fail
    refine (HW.out _).mono ?_
    rintro e w2 ⟨b1, b2, rfl, t1, t2, hb⟩
    have hc := t1.2 k hk1
    rw [<- EX.out] at hc
    have HB2 := LH (HB.out.trans (hb.mono HB.out.size))
    clear t1 t2 hb
    go_wp2_with fail
    go_ret2
    exact ⟨by first | rfl | go_num, HB2.out⟩
 ·rw [if_neg h] at HL ⊢
  have H := LH HL
  clear HL h
  go_enter Tryz.func165, Tryz.ntmps165
  go_wp2_with fail
  refine (H.out _).mono ?_
  rintro e w1 ⟨rfl, hb⟩
  have HB := LH hb
  clear hb
  go_wp2_with fail
  go_ret2
  exact ⟨rfl, HB.out⟩
theorem rdbit_go (s : Int) (w : World) : Calls Tryz.prog 40 #[.int .i64 s] w (Two (Sy.dbitA s).1 (Sy.dbitA s).2 w) := by
 unfold Sy.dbitA
 by_cases h1 : s < 0
 ·rw [if_neg (by omega)]
  have d1 : decide (s < 0) = true := decide_eq_true h1
  clear h1
  go_enter Tryz.func40, Tryz.ntmps40
  go_wp2_with fail
  go_ret2
  exact ⟨rfl, Below.refl _ _⟩
 ·have d1 : decide (s < 0) = false := decide_eq_false h1
  by_cases h2 : 29 < s
  ·rw [if_neg (by omega)]
   have d2 : decide (29 < s) = true := decide_eq_true h2
   clear h1 h2
   go_enter Tryz.func40, Tryz.ntmps40
   go_wp2_with fail
   go_ret2
   exact ⟨rfl, Below.refl _ _⟩
  ·rw [if_pos (by omega)]
   have d2 : decide (29 < s) = false := decide_eq_false h2
   obtain ⟨k, rfl⟩ : ∃ k : Nat, s = (k : Int) := ⟨s.toNat, by omega⟩
   have ek : (k : Int).toNat = k := by omega
   rw [ek]
   have hk1 : k < 30 := by omega
   have HW := LH (fun w => rdists_is w)
   clear h1 h2 ek
   go_enter Tryz.func40, Tryz.ntmps40
   go_wp2_with fail
   refine (HW.out _).mono ?_
   rintro e w1 ⟨b1, b2, rfl, t1, t2, hb⟩
   have hc := t2.2 k hk1
   have HB := LH hb
   clear t1 t2 hb
   go_wp2_with fail
   go_ret2
   exact ⟨rfl, HB.out⟩
theorem rdnum_go (s v : Int) (w : World) (hi : v <= 9223372036854775807) : Calls Tryz.prog 166 #[.int .i64 s, .int .i64 v] w (Two (Sy.dnumA s v).1 (Sy.dnumA s v).2 w) := by
 have HL := fun w => rdbit_go s w
 unfold Sy.dbitA at HL
 unfold Sy.dnumA
 by_cases h : 0 <= s /\ s <= 29
 ·rw [if_pos h] at HL ⊢
  obtain ⟨k, rfl⟩ : ∃ k : Nat, s = (k : Int) := ⟨s.toNat, by omega⟩
  have ek : (k : Int).toNat = k := by omega
  rw [ek] at HL ⊢
  have hk1 : k < 30 := by omega
  have hb5 := Sy.db_le k hk1
  have hle := Sy.df_le k hk1
  obtain ⟨b, eb⟩ : ∃ b, b = Sy.at' Sy.db k := ⟨_, rfl⟩
  rw [<- eb] at HL hb5 hle ⊢
  have hp := pow_is b (by omega)
  obtain ⟨p, ep⟩ : ∃ p : Nat, p = 2 ^ b := ⟨_, rfl⟩
  rw [<- ep] at hp hle ⊢
  have H := LH HL
  clear HL ek eb ep
  by_cases h1 : v < 0
  ·rw [if_neg (by omega)]
   have d1 : decide (v < 0) = true := decide_eq_true h1
   clear h1
   go_enter Tryz.func166, Tryz.ntmps166
   go_wp2_with fail
   refine (H.out _).mono ?_
   rintro e w1 ⟨rfl, hb⟩
   have HB := LH hb
   clear hb
   go_wp2_with fail
   go_ret2
   exact ⟨rfl, HB.out⟩
  ·have d1 : decide (v < 0) = false := decide_eq_false h1
   obtain ⟨m, rfl⟩ : ∃ m : Nat, v = (m : Int) := ⟨v.toNat, by omega⟩
   rw [Int.toNat_natCast]
   by_cases h2 : p <= m
   ·rw [if_neg (by omega)]
    have d2 : decide ((p : Int) <= (m : Int)) = true := decide_eq_true (by omega)
    have d2' : decide (p <= m) = true := decide_eq_true h2
    clear h1 h2
    go_enter Tryz.func166, Tryz.ntmps166
    go_wp2_with fail
    refine (H.out _).mono ?_
    rintro e w1 ⟨rfl, hb⟩
    have HB := LH hb
    clear hb
    go_wp2_with fail
    go_ret2
    exact ⟨rfl, HB.out⟩
   ·rw [if_pos (by omega)]
    have d2 : decide ((p : Int) <= (m : Int)) = false := decide_eq_false (by omega)
    have d2' : decide (p <= m) = false := decide_eq_false h2
    have HW := LH (fun w => rdists_is w)
    obtain ⟨x, ex⟩ : ∃ x, x = Sy.at' Sy.df k := ⟨_, rfl⟩
    rw [<- ex] at hle ⊢
    have EX := LH ex
    have hle2 := hle.2
    have hmp : m < p := by omega
    clear h1 h2 h ex hle
    go_enter Tryz.func166, Tryz.ntmps166
    go_wp2_with fail
    refine (H.out _).mono ?_
    rintro e w1 ⟨rfl, hb⟩
    have HB := LH hb
    clear hb
    go_wp2_with fail
    refine (HW.out _).mono ?_
    rintro e w2 ⟨b1, b2, rfl, t1, t2, hb⟩
    have hc := t1.2 k hk1
    rw [<- EX.out] at hc
    have HB2 := LH (HB.out.trans (hb.mono HB.out.size))
    clear t1 t2 hb
    go_wp2_with fail
    go_ret2
    exact ⟨by first | rfl | go_num, HB2.out⟩
 ·rw [if_neg h] at HL ⊢
  have H := LH HL
  clear HL h
  go_enter Tryz.func166, Tryz.ntmps166
  go_wp2_with fail
  refine (H.out _).mono ?_
  rintro e w1 ⟨rfl, hb⟩
  have HB := LH hb
  clear hb
  go_wp2_with fail
  go_ret2
  exact ⟨rfl, HB.out⟩
end Go.Proofs.YtckbhciehmokdaaGreatDoor
