/- Locks: Ask, of a key that nobody holds. -/
import Derived.Test.YtoipmdemicdhoaaQfree
import Derived.Test.YtoipmdemicdhoaaShelf

namespace Go.Proofs.Ytoipmdemicdhoaa
set_option maxRecDepth 100000
open Go.RowKit Go.Shelf Go.Maps

set_option maxHeartbeats 1000000 in
theorem clone_str (S : ByteArray) (w : World) (hS : S.size ≤ 1000) : Calls Try.prog 28 #[.string S] w fun e w' => e = .returned (.string S) ∧ Below w.heap.size w w' := by
  have HC := Lib.hid (Try.stringslite_Clone S w (by omega))
  go_enter Try.func28, Try.ntmps28
  go_wp2_with fail
  refine HC.out.mono ?_
  rintro e w' ⟨rfl, hb⟩
  have HB := Lib.hid hb
  clear hb
  go_wp2
  go_ret
  exact ⟨rfl, HB.out⟩

/-- What Ask leaves. -/
def AskP (w : World) (b : Nat) (D : Nat → Prop) (s : Qk.Sts) (S : ByteArray) (who : Int) (z : Bool) (e : Ending) (w' : World) : Prop :=
  ∃ D', e = .returned (.tuple #[.bool (Qk.askB (s S) who z), .int .i64 (Qk.askE (s S) who)]) ∧ Lks w' b D' (Qk.upd s S (Qk.ask (s S) who z)) ∧ Nxt D w D' w'

theorem askB_err {s : Qk.St} {who : Int} {z : Bool} (h : Qk.askE s who ≠ 0) : Qk.askB s who z = false := by
  cases hb : Qk.askB s who z with
  | false => rfl
  | true => exact absurd ((Qk.askB_iff s who z).1 hb).1 h
theorem AskP.err {w w' : World} {b : Nat} {D : Nat → Prop} {s : Qk.Sts} {S : ByteArray} {who : Int} {z : Bool} (h : Lks w b D s) (hb : Below w.heap.size w w') (he : Qk.askE (s S) who ≠ 0) : AskP w b D s S who z (.returned (.tuple #[.bool false, .int .i64 (Qk.askE (s S) who)])) w' := by
  refine ⟨D, by rw [askB_err he], ?_, Nxt.below hb⟩
  unfold Qk.ask; rw [if_neg he, upd_self]; exact h.later hb

set_option maxRecDepth 100000 in
set_option maxHeartbeats 4000000 in
theorem ask_arg (w : World) (b : Nat) (D : Nat → Prop) (s : Qk.Sts) (S : ByteArray) (who : Int) (z : Bool) (h : Lks w b D s) (hw : who < 0 ∨ 8 ≤ who) :
    Calls Try.prog 15 #[.pointer (some ⟨b, 0, none⟩), .int .i64 who, .string S, .bool z] w (AskP w b D s S who z) := by
  have he : Qk.askE (s S) who = 2 := by unfold Qk.askE; rw [if_pos hw]
  have HP := Lib.hid (AskP.err (S := S) (who := who) (z := z) h (Below.refl _ _) (by rw [he]; decide))
  rw [he] at HP
  obtain ⟨m, n, f, ow, h⟩ := h
  have HC := Lib.hid (check_any w b m who h.has.one.1)
  rw [if_pos hw] at HC
  clear h he hw
  go_enter Try.func15, Try.ntmps15
  go_wp2_with fail
  refine HC.out.mono ?_
  rintro e w' ⟨rfl, rfl⟩
  go_wp2
  go_ret2
  exact HP.out

set_option maxRecDepth 100000 in
set_option maxHeartbeats 8000000 in
theorem ask_new (w : World) (b : Nat) (D : Nat → Prop) (s : Qk.Sts) (S : ByteArray) (hS : S.size ≤ 1000) (p : Nat) (z : Bool) (hp : p < 8) {m n : Nat} {f : Value → Option Value} {ow : Nat → Option ByteArray} (h : LksV w b m n f ow D s) (hf : f (.string S) = none) (hs : s S = Qk.nob) :
    Calls Try.prog 15 #[.pointer (some ⟨b, 0, none⟩), .int .i64 (p : Int), .string S, .bool z] w (AskP w b D s S p z) := by
  have he : Qk.askE (s S) p = 0 := by unfold Qk.askE; rw [if_neg (by omega), hs, if_neg (by simp [Qk.nob])]
  have hbz : Qk.askB (s S) p z = true := (Qk.askB_iff _ _ _).2 ⟨he, by rw [hs]; rfl, by rw [hs]; rfl⟩
  have hask : Qk.ask (s S) p z = ⟨[p], z, []⟩ := by
    unfold Qk.ask
    rw [if_pos he, if_pos hbz, hs]
    have : (p : Int).toNat = p := by omega
    rw [this]; rfl
  have HC := Lib.hid (check_any w b m p h.has.one.1)
  rw [if_neg (by omega)] at HC
  obtain ⟨kl, hk⟩ := str_key S hS
  have c0 := h.has.one.1
  have L : (Instr.lookup 49 (.map (some m)) (.string S) false).run Try.prog w = .ok (.pointer none) w :=
    h.map.look_none str_keyed Try.underlying49 (z := .pointer none) rfl false (.string S) hk hf
  have b1 := below1 w (.cells #[.slice none 0 0, .bool false, .slice none 0 0] 67)
  have hcx := Has.new w (.cells #[.slice none 0 0, .bool false, .slice none 0 0] 67)
  obtain ⟨W1, hW1⟩ : ∃ W, W = w.alloc (.cells #[.slice none 0 0, .bool false, .slice none 0 0] 67) := ⟨_, rfl⟩
  rw [← hW1] at b1 hcx
  have hz1 : W1.heap.size = w.heap.size + 1 := by rw [hW1]; simp
  have hb1 := h.has.later b1
  have hm1 := h.map.later b1
  have m1 : W1.drew.cell? ⟨b, 0, none⟩ = some (.map (some m)) := hb1.one.1
  have HCL := Lib.hid (clone_str S W1.drew hS)
  have hbm : b ≠ m := (h.map.ne_has h.has).symm
  have hmw : m < w.heap.size := h.map.lt
  have HUP : Hid (∀ w3, Below W1.heap.size W1.drew w3 → ∃ w4, (Instr.mapUpdate 49 (.map (some m)) (.string S) (.pointer (some ⟨w.heap.size, 0, none⟩))).run Try.prog w3 = .ok () w4 ∧ w3.cell? ⟨b, 0, none⟩ = some (.map (some m)) ∧ w4.cell? ⟨b, 0, none⟩ = some (.map (some m)) ∧
      Has w4 w.heap.size (.cells #[.slice none 0 0, .bool false, .slice none 0 0] 67 (0, 0)) ∧ Ap Try.prog 9 w4 m (n + 1) (apd f (.string S) (some (.pointer (some ⟨w.heap.size, 0, none⟩)))) ∧ Tch (fun g => g = m) w w4 ∧ w.heap.size + 1 ≤ w4.heap.size) := by
    intro w3 hb3
    have hm3 : Ap Try.prog 9 w3 m n f := (show Ap Try.prog 9 W1.drew m n f from hm1.same rfl).later hb3
    have hb13 : Has w3 b _ := (show Has W1.drew b _ from hb1).later hb3
    have hc3 : Has w3 w.heap.size _ := (show Has W1.drew w.heap.size _ from hcx).later hb3
    obtain ⟨w4, h1, h2, h3, h4⟩ := hm3.store str_keyed Try.underlying49 (.string S) hk (.pointer (some ⟨w.heap.size, 0, none⟩))
    refine ⟨w4, h1, hb13.one.1, (hb13.only h3 hbm).one.1, hc3.only h3 (by omega), h2, ?_, by have := hb3.size; rw [h4]; show w.heap.size + 1 ≤ w3.heap.size; have : W1.drew.heap.size = W1.heap.size := rfl; omega⟩
    have t1 : Tch (fun g => g = m) w w3 := (Tch.of_below (S := fun g => g = m) b1).trans ((Tch.of_below (S := fun g => g = m) (w := W1) ((Below.refl _ W1).drew.trans hb3)))
    exact t1.trans (Tch.of_only h3 rfl)
  have HV1 := Lib.hid hW1
  have HLV := Lib.hid h
  have HA := Lib.hid (And.intro he (And.intro hbz hask))
  clear h hf hs he hbz hask hk b1 hcx hb1 hm1 hW1 hbm
  go_enter Try.func15, Try.ntmps15
  go_wp2_with fail
  refine HC.out.mono ?_
  rintro e w' ⟨rfl, rfl⟩
  clear HC
  go_wp2_with fail
  rw [← HV1.out]
  refine wp_region_held_drew (S := fun wx => wx.cell? ⟨b, 0, none⟩ = some (.map (some m))) (by kernel_rfl) m1 (fun _ => ?_)
  change wpAnyH _ _ _ _ _ 8 (Array.replicate 8 false) _ _
  refine wpAnyH_take (i := 0) (v := ?_) rfl (by kernel_rfl) (by kernel_rfl) (by kernel_rfl) (fun _ _ _ h => h) (Or.inl ⟨rfl, ?hy0⟩) m1 ?_
  case hy0 => intro w' hw'; clear hw'; go_simp; first | done | rfl
  try simp only [Act.put, List.getElem_toArray, List.getElem_cons_zero, List.setIfInBounds_toArray, List.set_cons_zero, List.set_cons_succ]
  refine wpAnyH_take (i := 1) (v := ?_) rfl (by kernel_rfl) (by kernel_rfl) (by kernel_rfl) (fun _ _ _ h => h) (Or.inl ⟨rfl, ?hy1⟩) m1 ?_
  case hy1 => intro w' hw'; clear hw'; go_simp; first | done | rfl
  try simp only [Act.put, List.getElem_toArray, List.getElem_cons_zero, List.getElem_cons_succ, List.setIfInBounds_toArray, List.set_cons_zero, List.set_cons_succ]
  refine wpAnyH_take (i := 2) (v := ?_) rfl (by kernel_rfl) (by kernel_rfl) (by kernel_rfl) (fun _ _ _ h => h) (Or.inl ⟨rfl, ?hy2⟩) m1 ?_
  case hy2 => intro w' hw'; clear hw'; go_simp; first | done | rfl
  try simp only [Act.put, List.getElem_toArray, List.getElem_cons_zero, List.getElem_cons_succ, List.setIfInBounds_toArray, List.set_cons_zero, List.set_cons_succ]
  refine wpAnyH_take (i := 3) (v := ?_) rfl (by kernel_rfl) (by kernel_rfl) (by kernel_rfl) (fun _ _ _ h => h) (Or.inl ⟨rfl, ?hy3⟩) m1 ?_
  case hy3 => intro w' hw'; have hw2' : w'.cell? ⟨b, 0, none⟩ = some (.map (some m)) := hw'; clear hw'; go_simp; first | done | rfl
  try simp only [Act.put, List.getElem_toArray, List.getElem_cons_zero, List.getElem_cons_succ, List.setIfInBounds_toArray, List.set_cons_zero, List.set_cons_succ]
  refine wpAnyH_take (i := 4) (v := ?_) rfl (by kernel_rfl) (by kernel_rfl) (by kernel_rfl) (fun _ _ _ h => h) (Or.inl ⟨rfl, ?hy4⟩) m1 ?_
  case hy4 => intro w' hw'; clear hw'; go_simp; first | done | rfl
  try simp only [Act.put, List.getElem_toArray, List.getElem_cons_zero, List.getElem_cons_succ, List.setIfInBounds_toArray, List.set_cons_zero, List.set_cons_succ]
  refine wpAnyH_take (i := 6) (v := ?_) rfl (by kernel_rfl) (by kernel_rfl) (by kernel_rfl) (fun _ _ _ h => h) (Or.inl ⟨rfl, ?hy6⟩) m1 ?_
  case hy6 => intro w' hw'; clear hw'; go_simp; first | done | rfl
  try simp only [Act.put, List.getElem_toArray, List.getElem_cons_zero, List.getElem_cons_succ, List.setIfInBounds_toArray, List.set_cons_zero, List.set_cons_succ]
  refine wpAnyH_ready (rs := [5]) (by kernel_rfl) (by simp) ?_
  refine AllReadyH.cons rfl (fun K hK => ?_) AllReadyH.nil
  go_simp
  refine (HCL.out).mono ?_
  rintro e w3 ⟨rfl, hb3⟩
  obtain ⟨w4, hup, p0, p1, hfin⟩ := HUP.out w3 hb3
  have HF := Lib.hid hfin
  clear hb3 hfin HCL HUP m1
  dsimp only
  refine hK.out _ _ p0 (fun _ => ?_)
  clear hK K
  try simp only [Act.put, List.getElem_toArray, List.getElem_cons_zero, List.getElem_cons_succ, List.setIfInBounds_toArray, List.set_cons_zero, List.set_cons_succ]
  refine wpAnyH_ready (rs := [7]) (by kernel_rfl) (by simp) ?_
  refine AllReadyH.cons rfl (fun K hK => ?_) AllReadyH.nil
  go_simp
  refine hK.out _ _ p1 (fun _ => ?_)
  clear hK K
  try simp only [Act.put, List.getElem_toArray, List.getElem_cons_zero, List.getElem_cons_succ, List.setIfInBounds_toArray, List.set_cons_zero, List.set_cons_succ]
  refine wpAnyH_done (by kernel_rfl) ?_ _
  obtain ⟨hc4, hm4, ht4, hz4⟩ := HF.out
  have hL4 : Lck w4 w'.heap.size (fun g => g = w'.heap.size) Qk.nob := ⟨_, _, hc4, ⟨rfl, Or.inl ⟨rfl, rfl⟩⟩, ⟨rfl, Or.inl ⟨rfl, rfl⟩⟩, rfl, (fun g hg => by cases hg), (fun g hg => by cases hg), (fun g hg => by omega)⟩
  have CH := Lib.hid (holds_any w4 w'.heap.size _ Qk.nob p hL4 (by simp [Qk.nob]))
  rw [decide_eq_false (by simp [Qk.nob])] at CH
  have CW := Lib.hid (awaits_any w4 w'.heap.size _ Qk.nob p hL4 (by simp [Qk.nob]))
  rw [decide_eq_false (by simp [Qk.nob])] at CW
  have HL4 := Lib.hid hL4
  have H4 := Lib.hid (And.intro hm4 (And.intro ht4 hz4))
  clear hc4 hm4 ht4 hz4 hL4 HF p0 p1 hup L c0
  go_wp2_with fail
  refine CH.out.mono ?_
  rintro e w4 ⟨rfl, rfl⟩
  go_wp2_with fail
  refine CW.out.mono ?_
  rintro e w5 ⟨rfl, hb5⟩
  obtain ⟨W6, hW6⟩ : ∃ W, W = w5.alloc (.cells #[.int .i64 (p : Int), .bool z] 70) := ⟨_, rfl⟩
  have b6 := below1 w5 (.cells #[.int .i64 (p : Int), .bool z] 70)
  have hbx := Has.new w5 (.cells #[.int .i64 (p : Int), .bool z] 70)
  rw [← hW6] at b6 hbx
  have b46 : Below w4.heap.size w4 W6 := hb5.trans (b6.mono hb5.size)
  have hL6 := HL4.out.later b46
  obtain ⟨t0, t1, -, -⟩ := hbx.two
  have CE := Lib.hid (empty_any W6 _ _ _ hL6)
  have CL := Lib.hid (lets_any W6 _ _ _ (p : Int) z hL6)
  have e1 : (Qk.nob).row.isEmpty = true := rfl
  have e2 : Qk.lets (Qk.nob).hs (Qk.nob).wr z = true := rfl
  rw [e1] at CE
  rw [e2] at CL
  have HB46 := Lib.hid b46
  have HBX := Lib.hid hbx
  have HV6 := Lib.hid hW6
  have HWL : Hid (w'.heap.size < w4.heap.size ∧ w4.heap.size ≤ w5.heap.size) := ⟨H4.out.2.2, hb5.size⟩
  clear hb5 hW6 b6 hbx b46 hL6 e1 e2 CH CW
  go_wp2_with fail
  rw [← HV6.out]
  refine CE.out.mono ?_
  rintro e W6 ⟨rfl, rfl⟩
  go_wp2_with fail
  refine CL.out.mono ?_
  rintro e W7 ⟨rfl, hb7⟩
  have hbx7 := HBX.out.later hb7
  have hL7 := HL4.out.later (HB46.out.trans (hb7.mono HB46.out.size))
  obtain ⟨u0, u1, -, -⟩ := hbx7.two
  have CO := Lib.hid (hold_any W7 _ _ _ p z hL7 (by simp [Qk.nob]))
  have HB7 := Lib.hid (HB46.out.trans (hb7.mono HB46.out.size))
  clear hb7 hbx7 hL7 CE CL t0 t1
  go_wp2_with fail
  refine CO.out.mono ?_
  rintro e W8 ⟨rfl, O8, hL8, hx8⟩
  have HFIN : Hid (AskP w' b D s S p z (.returned (.tuple #[.bool true, .int .i64 0])) W8) := by
    have hwl := HWL.out
    obtain ⟨hm4, ht4, hz4⟩ := H4.out
    have h47 : Tch (fun g => g = m) w' W7 := ht4.trans (Tch.of_below HB7.out)
    have h48 : Tch (fun g => ow g = some S ∨ g = m) w' W8 := (h47.mono (fun i hi => Or.inr hi)).then hx8.tch (fun i hi => Or.inr (by omega))
    have hm8 : Ap Try.prog 9 W8 m (n + 1) (apd f (.string S) (some (.pointer (some ⟨w'.heap.size, 0, none⟩)))) := (hm4.later HB7.out).tch hx8.tch (by omega)
    have hol : ∀ g, O8 g → g < W8.heap.size := by
      obtain ⟨hv, rv, hV⟩ := hL8
      exact hV.lt
    obtain ⟨e1, e2, e3⟩ := HA.out
    have hgd : Qk.Good (Qk.ask (s S) p z) := (HLV.out.good S).ask _ _
    rw [e3] at hgd
    obtain ⟨ow', D', h1, h2, -⟩ := HLV.out.upd (Of := O8) S ⟨[p], z, []⟩ hm8 (fun x hx => apd_ne f _ (str_ne hx)) h48 (fun g hg => Or.inr ((hx8.new g hg).elim (fun e => by omega) (fun e => by have := HB7.out.size; omega))) hol (Or.inr ⟨w'.heap.size, apd_same _ _ _, by simp, hL8⟩) hgd
    exact ⟨D', by rw [e1, e2], ⟨m, _, _, ow', by rw [e3]; exact h1⟩, h2⟩
  clear hL8 hx8 CO u0 u1 HLV H4
  go_wp2
  go_ret2
  exact HFIN.out
end Go.Proofs.Ytoipmdemicdhoaa
