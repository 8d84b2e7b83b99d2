/- Locks: Ask, of a key that somebody holds; New. -/
import Derived.Test.YtoipmdemicdhoaaQask

namespace Go.Proofs.Ytoipmdemicdhoaa
set_option maxRecDepth 100000
open Go.RowKit Go.Shelf Go.Maps

set_option maxRecDepth 100000 in
set_option maxHeartbeats 8000000 in
theorem ask_holds (w : World) (b : Nat) (D : Nat → Prop) (s : Qk.Sts) (S : ByteArray) (hS : S.size ≤ 1000) (p : Nat) (z : Bool) (hp : p < 8) {m n c : Nat} {f : Value → Option Value} {ow : Nat → Option ByteArray} (h : LksV w b m n f ow D s) (hf : f (.string S) = some (.pointer (some ⟨c, 0, none⟩))) (hL : Lck w c (fun g => ow g = some S) (s S)) (hm : p ∈ (s S).hs) :
    Calls Try.prog 15 #[.pointer (some ⟨b, 0, none⟩), .int .i64 (p : Int), .string S, .bool z] w (AskP w b D s S p z) := by
  have HC := Lib.hid (check_any w b m p h.has.one.1)
  rw [if_neg (by omega)] at HC
  obtain ⟨kl, hk⟩ := str_key S hS
  have c0 := h.has.one.1
  have L : (Instr.lookup 49 (.map (some m)) (.string S) false).run Try.prog w = .ok (.pointer (some ⟨c, 0, none⟩)) w :=
    h.map.look_some str_keyed Try.underlying49 false (.string S) hk hf
  have hle := (h.good S).le
  have CH := Lib.hid (holds_any w c _ (s S) p hL (by omega))
  have CW := Lib.hid (awaits_any w c _ (s S) p hL (by omega))
  have he : Qk.askE (s S) p = 18 := by unfold Qk.askE; rw [if_neg (by omega), if_pos (Or.inl (by simpa using hm))]
  have HP := Lib.hid (AskP.err (S := S) (who := (p : Int)) (z := z) ⟨m, n, f, ow, h⟩ (Below.refl _ _) (by rw [he]; decide))
  rw [he] at HP
  rw [decide_eq_true hm] at CH
  clear h hf hL hk hle he hm CW
  go_enter Try.func15, Try.ntmps15
  go_wp2_with fail
  refine HC.out.mono ?_
  rintro e w' ⟨rfl, rfl⟩
  clear HC
  go_wp2_with fail
  refine CH.out.mono ?_
  rintro e w' ⟨rfl, rfl⟩
  go_wp2_with fail
  go_ret2
  exact HP.out

set_option maxRecDepth 100000 in
set_option maxHeartbeats 8000000 in
theorem ask_awaits (w : World) (b : Nat) (D : Nat → Prop) (s : Qk.Sts) (S : ByteArray) (hS : S.size ≤ 1000) (p : Nat) (z : Bool) (hp : p < 8) {m n c : Nat} {f : Value → Option Value} {ow : Nat → Option ByteArray} (h : LksV w b m n f ow D s) (hf : f (.string S) = some (.pointer (some ⟨c, 0, none⟩))) (hL : Lck w c (fun g => ow g = some S) (s S)) (hm : p ∉ (s S).hs) (hm2 : p ∈ (s S).row.map Prod.fst) :
    Calls Try.prog 15 #[.pointer (some ⟨b, 0, none⟩), .int .i64 (p : Int), .string S, .bool z] w (AskP w b D s S p z) := by
  have HC := Lib.hid (check_any w b m p h.has.one.1)
  rw [if_neg (by omega)] at HC
  obtain ⟨kl, hk⟩ := str_key S hS
  have c0 := h.has.one.1
  have L : (Instr.lookup 49 (.map (some m)) (.string S) false).run Try.prog w = .ok (.pointer (some ⟨c, 0, none⟩)) w :=
    h.map.look_some str_keyed Try.underlying49 false (.string S) hk hf
  have hle := (h.good S).le
  have CH := Lib.hid (holds_any w c _ (s S) p hL (by omega))
  have CW := Lib.hid (awaits_any w c _ (s S) p hL (by omega))
  have he : Qk.askE (s S) p = 18 := by unfold Qk.askE; rw [if_neg (by omega), if_pos (Or.inr (by simpa using hm2))]
  have HP := Lib.hid (fun w' hb => AskP.err (S := S) (who := (p : Int)) (z := z) (w' := w') ⟨m, n, f, ow, h⟩ hb (by rw [he]; decide))
  rw [he] at HP
  rw [decide_eq_false hm] at CH
  rw [decide_eq_true hm2] at CW
  clear h hf hL hk hle he hm hm2
  go_enter Try.func15, Try.ntmps15
  go_wp2_with fail
  refine HC.out.mono ?_
  rintro e w' ⟨rfl, rfl⟩
  clear HC
  go_wp2_with fail
  refine CH.out.mono ?_
  rintro e w' ⟨rfl, rfl⟩
  go_wp2_with fail
  refine CW.out.mono ?_
  rintro e w5 ⟨rfl, hb5⟩
  have HF := Lib.hid (HP.out w5 hb5)
  clear hb5
  go_wp2_with fail
  go_ret2
  exact HF.out

set_option maxRecDepth 100000 in
set_option maxHeartbeats 8000000 in
theorem ask_hold (w : World) (b : Nat) (D : Nat → Prop) (s : Qk.Sts) (S : ByteArray) (hS : S.size ≤ 1000) (p : Nat) (z : Bool) (hp : p < 8) {m n c : Nat} {f : Value → Option Value} {ow : Nat → Option ByteArray} (h : LksV w b m n f ow D s) (hf : f (.string S) = some (.pointer (some ⟨c, 0, none⟩))) (hL : Lck w c (fun g => ow g = some S) (s S)) (he : Qk.askE (s S) p = 0) (hb : Qk.askB (s S) p z = true) :
    Calls Try.prog 15 #[.pointer (some ⟨b, 0, none⟩), .int .i64 (p : Int), .string S, .bool z] w (AskP w b D s S p z) := by
  have HC := Lib.hid (check_any w b m p h.has.one.1)
  rw [if_neg (by omega)] at HC
  obtain ⟨kl, hk⟩ := str_key S hS
  have c0 := h.has.one.1
  have L : (Instr.lookup 49 (.map (some m)) (.string S) false).run Try.prog w = .ok (.pointer (some ⟨c, 0, none⟩)) w :=
    h.map.look_some str_keyed Try.underlying49 false (.string S) hk hf
  have hle := (h.good S).le
  have CH := Lib.hid (holds_any w c _ (s S) p hL (by omega))
  have CW := Lib.hid (awaits_any w c _ (s S) p hL (by omega))
  obtain ⟨-, -, hm, hm2⟩ := Qk.askE_zero he
  rw [show (p : Int).toNat = p by omega] at hm hm2
  rw [decide_eq_false hm] at CH
  rw [decide_eq_false hm2] at CW
  have hask : Qk.ask (s S) p z = ⟨(s S).hs ++ [p], z, (s S).row⟩ := by
    unfold Qk.ask
    rw [if_pos he, if_pos hb]
    have : (p : Int).toNat = p := by omega
    rw [this]
  have hq : (s S).row.isEmpty = true := by rw [((Qk.askB_iff _ _ _).1 hb).2.1]; rfl
  have hl : Qk.lets (s S).hs (s S).wr z = true := ((Qk.askB_iff _ _ _).1 hb).2.2
  have HLV := Lib.hid h
  have HLK := Lib.hid hL
  have HF := Lib.hid hf
  have HA := Lib.hid (And.intro he (And.intro hb hask))
  have HQ := Lib.hid hq
  have HLE := Lib.hid hle
  have HLT := Lib.hid hl
  clear h hf hL hk hle he hm hm2 hask hb hq hl
  go_enter Try.func15, Try.ntmps15
  go_wp2_with fail
  refine HC.out.mono ?_
  rintro e w' ⟨rfl, rfl⟩
  clear HC
  go_wp2_with fail
  refine CH.out.mono ?_
  rintro e w' ⟨rfl, rfl⟩
  go_wp2_with fail
  refine CW.out.mono ?_
  rintro e w5 ⟨rfl, hb5⟩
  obtain ⟨W6, hW6⟩ : ∃ W, W = w5.alloc (.cells #[.int .i64 (p : Int), .bool z] 70) := ⟨_, rfl⟩
  have b6 := below1 w5 (.cells #[.int .i64 (p : Int), .bool z] 70)
  have hbx := Has.new w5 (.cells #[.int .i64 (p : Int), .bool z] 70)
  rw [← hW6] at b6 hbx
  have b46 : Below w'.heap.size w' W6 := hb5.trans (b6.mono hb5.size)
  have hL6 := HLK.out.later b46
  obtain ⟨t0, t1, -, -⟩ := hbx.two
  have CE := Lib.hid (empty_any W6 _ _ _ hL6)
  rw [HQ.out] at CE
  have CL := Lib.hid (lets_any W6 _ _ _ (p : Int) z hL6)
  rw [HLT.out] at CL
  have HB46 := Lib.hid b46
  have HBX := Lib.hid hbx
  have HV6 := Lib.hid hW6
  clear hb5 hW6 b6 hbx b46 hL6 CH CW c0 L
  go_wp2_with fail
  rw [← HV6.out]
  refine CE.out.mono ?_
  rintro e W6 ⟨rfl, rfl⟩
  go_wp2_with fail
  refine CL.out.mono ?_
  rintro e W7 ⟨rfl, hb7⟩
  have hbx7 := HBX.out.later hb7
  have hL7 := HLK.out.later (HB46.out.trans (hb7.mono HB46.out.size))
  obtain ⟨u0, u1, -, -⟩ := hbx7.two
  have HB7 := Lib.hid (HB46.out.trans (hb7.mono HB46.out.size))
  clear hb7 hbx7 CE CL t0 t1
  have CO := Lib.hid (hold_any W7 c _ (s S) p z hL7 (by have := HLE.out; omega))
  clear hL7
  go_wp2_with fail
  refine CO.out.mono ?_
  rintro e W8 ⟨rfl, O8, hL8, hx8⟩
  have HFIN : Hid (AskP w' b D s S p z (.returned (.tuple #[.bool true, .int .i64 0])) W8) := by
    have h48 : Nxt (fun g => ow g = some S) w' O8 W8 := (Nxt.below HB7.out).trans hx8
    have h49 : Tch (fun g => ow g = some S ∨ g = m) w' W8 := h48.tch.mono (fun i hi => Or.inl hi)
    have hnm : ¬ (ow m = some S) := by rw [HLV.out.om]; intro e; cases e
    have hm8 : Ap Try.prog 9 W8 m n f := HLV.out.map.tch h48.tch hnm
    have hol : ∀ g, O8 g → g < W8.heap.size := by
      obtain ⟨hv, rv, hV⟩ := hL8
      exact hV.lt
    obtain ⟨e1, e2, e3⟩ := HA.out
    have hgd : Qk.Good (Qk.ask (s S) p z) := (HLV.out.good S).ask _ _
    rw [e3] at hgd
    obtain ⟨ow', D', h1, h2, -⟩ := HLV.out.upd (Of := O8) S _ hm8 (fun x hx => rfl) h49 h48.new hol (Or.inr ⟨c, HF.out, by simp, hL8⟩) hgd
    exact ⟨D', by rw [e1, e2], ⟨m, _, _, ow', by rw [e3]; exact h1⟩, h2⟩
  clear hL8 hx8 CO u0 u1 HLV
  go_wp2
  go_ret2
  exact HFIN.out

set_option maxRecDepth 100000 in
set_option maxHeartbeats 8000000 in
theorem ask_addq (w : World) (b : Nat) (D : Nat → Prop) (s : Qk.Sts) (S : ByteArray) (hS : S.size ≤ 1000) (p : Nat) (z : Bool) (hp : p < 8) {m n c : Nat} {f : Value → Option Value} {ow : Nat → Option ByteArray} (h : LksV w b m n f ow D s) (hf : f (.string S) = some (.pointer (some ⟨c, 0, none⟩))) (hL : Lck w c (fun g => ow g = some S) (s S)) (he : Qk.askE (s S) p = 0) (hb : Qk.askB (s S) p z = false) (hq : (s S).row.isEmpty = false) :
    Calls Try.prog 15 #[.pointer (some ⟨b, 0, none⟩), .int .i64 (p : Int), .string S, .bool z] w (AskP w b D s S p z) := by
  have HC := Lib.hid (check_any w b m p h.has.one.1)
  rw [if_neg (by omega)] at HC
  obtain ⟨kl, hk⟩ := str_key S hS
  have c0 := h.has.one.1
  have L : (Instr.lookup 49 (.map (some m)) (.string S) false).run Try.prog w = .ok (.pointer (some ⟨c, 0, none⟩)) w :=
    h.map.look_some str_keyed Try.underlying49 false (.string S) hk hf
  have hle := (h.good S).le
  have CH := Lib.hid (holds_any w c _ (s S) p hL (by omega))
  have CW := Lib.hid (awaits_any w c _ (s S) p hL (by omega))
  obtain ⟨-, -, hm, hm2⟩ := Qk.askE_zero he
  rw [show (p : Int).toNat = p by omega] at hm hm2
  rw [decide_eq_false hm] at CH
  rw [decide_eq_false hm2] at CW
  have hask : Qk.ask (s S) p z = ⟨(s S).hs, (s S).wr, (s S).row ++ [(p, z)]⟩ := by
    unfold Qk.ask
    rw [if_pos he, if_neg (by rw [hb]; decide)]
    have : (p : Int).toNat = p := by omega
    rw [this]
  have HLV := Lib.hid h
  have HLK := Lib.hid hL
  have HF := Lib.hid hf
  have HA := Lib.hid (And.intro he (And.intro hb hask))
  have HQ := Lib.hid hq
  have HLE := Lib.hid hle
  clear h hf hL hk hle he hm hm2 hask hb hq
  go_enter Try.func15, Try.ntmps15
  go_wp2_with fail
  refine HC.out.mono ?_
  rintro e w' ⟨rfl, rfl⟩
  clear HC
  go_wp2_with fail
  refine CH.out.mono ?_
  rintro e w' ⟨rfl, rfl⟩
  go_wp2_with fail
  refine CW.out.mono ?_
  rintro e w5 ⟨rfl, hb5⟩
  obtain ⟨W6, hW6⟩ : ∃ W, W = w5.alloc (.cells #[.int .i64 (p : Int), .bool z] 70) := ⟨_, rfl⟩
  have b6 := below1 w5 (.cells #[.int .i64 (p : Int), .bool z] 70)
  have hbx := Has.new w5 (.cells #[.int .i64 (p : Int), .bool z] 70)
  rw [← hW6] at b6 hbx
  have b46 : Below w'.heap.size w' W6 := hb5.trans (b6.mono hb5.size)
  have hL6 := HLK.out.later b46
  obtain ⟨t0, t1, -, -⟩ := hbx.two
  have CE := Lib.hid (empty_any W6 _ _ _ hL6)
  rw [HQ.out] at CE
  have HB46 := Lib.hid b46
  have HBX := Lib.hid hbx
  have HV6 := Lib.hid hW6
  clear hb5 hW6 b6 hbx b46 hL6 CH CW c0 L
  go_wp2_with fail
  rw [← HV6.out]
  refine CE.out.mono ?_
  rintro e W6 ⟨rfl, rfl⟩
  obtain ⟨W7, hW7⟩ : ∃ W, W = W6 := ⟨_, rfl⟩
  rw [← hW7] at t0 t1
  have u0 := t0
  have u1 := t1
  have HB7 : Hid (Below w'.heap.size w' W7) := by rw [hW7]; exact HB46.out
  have hL7 := HLK.out.later HB7.out
  rw [← hW7]
  clear hW7 CE t0 t1
  have HUQ : Hid (∀ W, W = W7.drew → W.cell? ⟨w5.heap.size, 0, none⟩ = some (.int .i64 (p : Int)) ∧ W.cell? ⟨w5.heap.size, 1, none⟩ = some (.bool z)) := fun W hW => by rw [hW]; exact ⟨u0, u1⟩
  have CO := Lib.hid (fun W (hW : W = W7.drew) => add_any W c (fun g => ow g = some S) (s S) p z (by rw [hW]; exact hL7.later (Below.refl _ _).drew) (by have := HLE.out; omega))
  clear hL7 u0 u1
  go_wp2_with fail
  refine region_qtail 4 (by kernel_rfl) (by kernel_rfl) fun W9 hW9 => ?_
  obtain ⟨u0, u1⟩ := HUQ.out W9 hW9
  have CO9 := Lib.hid (CO.out W9 hW9)
  have HW9 := Lib.hid hW9
  clear hW9 HUQ CO
  simp only [List.take_succ_cons, List.take_zero, List.drop_succ_cons, List.drop_zero]
  repeat (go_big_quiet_step (fail))
  refine wpQuiet_nil ?_
  go_wp2_with fail
  refine CO9.out.mono ?_
  rintro e W8 ⟨rfl, O8, hL8, hx8'⟩
  have hx8 : Nxt (fun g => ow g = some S) W7 O8 W8 := (Nxt.below (O := fun g => ow g = some S) (show Below W7.heap.size W7 W9 by rw [HW9.out]; exact (Below.refl _ _).drew)).trans hx8'
  have HFIN : Hid (AskP w' b D s S p z (.returned (.tuple #[.bool false, .int .i64 0])) W8) := by
    have h48 : Nxt (fun g => ow g = some S) w' O8 W8 := (Nxt.below HB7.out).trans hx8
    have h49 : Tch (fun g => ow g = some S ∨ g = m) w' W8 := h48.tch.mono (fun i hi => Or.inl hi)
    have hnm : ¬ (ow m = some S) := by rw [HLV.out.om]; intro e; cases e
    have hm8 : Ap Try.prog 9 W8 m n f := HLV.out.map.tch h48.tch hnm
    have hol : ∀ g, O8 g → g < W8.heap.size := by
      obtain ⟨hv, rv, hV⟩ := hL8
      exact hV.lt
    obtain ⟨e1, e2, e3⟩ := HA.out
    have hgd : Qk.Good (Qk.ask (s S) p z) := (HLV.out.good S).ask _ _
    rw [e3] at hgd
    obtain ⟨ow', D', h1, h2, -⟩ := HLV.out.upd (Of := O8) S _ hm8 (fun x hx => rfl) h49 h48.new hol (Or.inr ⟨c, HF.out, (fun e => by have h9 := hgd.empty e; injection h9 with _ _ h9; simp at h9), hL8⟩) hgd
    exact ⟨D', by rw [e1, e2], ⟨m, _, _, ow', by rw [e3]; exact h1⟩, h2⟩
  clear hL8 hx8 hx8' CO9 u0 u1 HLV HW9
  go_wp2
  go_ret2
  exact HFIN.out

set_option maxRecDepth 100000 in
set_option maxHeartbeats 8000000 in
theorem ask_addl (w : World) (b : Nat) (D : Nat → Prop) (s : Qk.Sts) (S : ByteArray) (hS : S.size ≤ 1000) (p : Nat) (z : Bool) (hp : p < 8) {m n c : Nat} {f : Value → Option Value} {ow : Nat → Option ByteArray} (h : LksV w b m n f ow D s) (hf : f (.string S) = some (.pointer (some ⟨c, 0, none⟩))) (hL : Lck w c (fun g => ow g = some S) (s S)) (he : Qk.askE (s S) p = 0) (hb : Qk.askB (s S) p z = false) (hq : (s S).row.isEmpty = true) (hl : Qk.lets (s S).hs (s S).wr z = false) :
    Calls Try.prog 15 #[.pointer (some ⟨b, 0, none⟩), .int .i64 (p : Int), .string S, .bool z] w (AskP w b D s S p z) := by
  have HC := Lib.hid (check_any w b m p h.has.one.1)
  rw [if_neg (by omega)] at HC
  obtain ⟨kl, hk⟩ := str_key S hS
  have c0 := h.has.one.1
  have L : (Instr.lookup 49 (.map (some m)) (.string S) false).run Try.prog w = .ok (.pointer (some ⟨c, 0, none⟩)) w :=
    h.map.look_some str_keyed Try.underlying49 false (.string S) hk hf
  have hle := (h.good S).le
  have CH := Lib.hid (holds_any w c _ (s S) p hL (by omega))
  have CW := Lib.hid (awaits_any w c _ (s S) p hL (by omega))
  obtain ⟨-, -, hm, hm2⟩ := Qk.askE_zero he
  rw [show (p : Int).toNat = p by omega] at hm hm2
  rw [decide_eq_false hm] at CH
  rw [decide_eq_false hm2] at CW
  have hask : Qk.ask (s S) p z = ⟨(s S).hs, (s S).wr, (s S).row ++ [(p, z)]⟩ := by
    unfold Qk.ask
    rw [if_pos he, if_neg (by rw [hb]; decide)]
    have : (p : Int).toNat = p := by omega
    rw [this]
  have HLV := Lib.hid h
  have HLK := Lib.hid hL
  have HF := Lib.hid hf
  have HA := Lib.hid (And.intro he (And.intro hb hask))
  have HQ := Lib.hid hq
  have HLE := Lib.hid hle
  have HLT := Lib.hid hl
  clear h hf hL hk hle he hm hm2 hask hb hq hl
  go_enter Try.func15, Try.ntmps15
  go_wp2_with fail
  refine HC.out.mono ?_
  rintro e w' ⟨rfl, rfl⟩
  clear HC
  go_wp2_with fail
  refine CH.out.mono ?_
  rintro e w' ⟨rfl, rfl⟩
  go_wp2_with fail
  refine CW.out.mono ?_
  rintro e w5 ⟨rfl, hb5⟩
  obtain ⟨W6, hW6⟩ : ∃ W, W = w5.alloc (.cells #[.int .i64 (p : Int), .bool z] 70) := ⟨_, rfl⟩
  have b6 := below1 w5 (.cells #[.int .i64 (p : Int), .bool z] 70)
  have hbx := Has.new w5 (.cells #[.int .i64 (p : Int), .bool z] 70)
  rw [← hW6] at b6 hbx
  have b46 : Below w'.heap.size w' W6 := hb5.trans (b6.mono hb5.size)
  have hL6 := HLK.out.later b46
  obtain ⟨t0, t1, -, -⟩ := hbx.two
  have CE := Lib.hid (empty_any W6 _ _ _ hL6)
  rw [HQ.out] at CE
  have CL := Lib.hid (lets_any W6 _ _ _ (p : Int) z hL6)
  rw [HLT.out] at CL
  have HB46 := Lib.hid b46
  have HBX := Lib.hid hbx
  have HV6 := Lib.hid hW6
  clear hb5 hW6 b6 hbx b46 hL6 CH CW c0 L
  go_wp2_with fail
  rw [← HV6.out]
  refine CE.out.mono ?_
  rintro e W6 ⟨rfl, rfl⟩
  go_wp2_with fail
  refine CL.out.mono ?_
  rintro e W7 ⟨rfl, hb7⟩
  have hbx7 := HBX.out.later hb7
  have hL7 := HLK.out.later (HB46.out.trans (hb7.mono HB46.out.size))
  obtain ⟨u0, u1, -, -⟩ := hbx7.two
  have HB7 := Lib.hid (HB46.out.trans (hb7.mono HB46.out.size))
  clear hb7 hbx7 CE CL t0 t1
  have HUQ : Hid (∀ W, W = W7.drew → W.cell? ⟨w5.heap.size, 0, none⟩ = some (.int .i64 (p : Int)) ∧ W.cell? ⟨w5.heap.size, 1, none⟩ = some (.bool z)) := fun W hW => by rw [hW]; exact ⟨u0, u1⟩
  have CO := Lib.hid (fun W (hW : W = W7.drew) => add_any W c (fun g => ow g = some S) (s S) p z (by rw [hW]; exact hL7.later (Below.refl _ _).drew) (by have := HLE.out; omega))
  clear hL7 u0 u1
  go_wp2_with fail
  refine region_qtail 4 (by kernel_rfl) (by kernel_rfl) fun W9 hW9 => ?_
  obtain ⟨u0, u1⟩ := HUQ.out W9 hW9
  have CO9 := Lib.hid (CO.out W9 hW9)
  have HW9 := Lib.hid hW9
  clear hW9 HUQ CO
  simp only [List.take_succ_cons, List.take_zero, List.drop_succ_cons, List.drop_zero]
  repeat (go_big_quiet_step (fail))
  refine wpQuiet_nil ?_
  go_wp2_with fail
  refine CO9.out.mono ?_
  rintro e W8 ⟨rfl, O8, hL8, hx8'⟩
  have hx8 : Nxt (fun g => ow g = some S) W7 O8 W8 := (Nxt.below (O := fun g => ow g = some S) (show Below W7.heap.size W7 W9 by rw [HW9.out]; exact (Below.refl _ _).drew)).trans hx8'
  have HFIN : Hid (AskP w' b D s S p z (.returned (.tuple #[.bool false, .int .i64 0])) W8) := by
    have h48 : Nxt (fun g => ow g = some S) w' O8 W8 := (Nxt.below HB7.out).trans hx8
    have h49 : Tch (fun g => ow g = some S ∨ g = m) w' W8 := h48.tch.mono (fun i hi => Or.inl hi)
    have hnm : ¬ (ow m = some S) := by rw [HLV.out.om]; intro e; cases e
    have hm8 : Ap Try.prog 9 W8 m n f := HLV.out.map.tch h48.tch hnm
    have hol : ∀ g, O8 g → g < W8.heap.size := by
      obtain ⟨hv, rv, hV⟩ := hL8
      exact hV.lt
    obtain ⟨e1, e2, e3⟩ := HA.out
    have hgd : Qk.Good (Qk.ask (s S) p z) := (HLV.out.good S).ask _ _
    rw [e3] at hgd
    obtain ⟨ow', D', h1, h2, -⟩ := HLV.out.upd (Of := O8) S _ hm8 (fun x hx => rfl) h49 h48.new hol (Or.inr ⟨c, HF.out, (fun e => by have h9 := hgd.empty e; injection h9 with _ _ h9; simp at h9), hL8⟩) hgd
    exact ⟨D', by rw [e1, e2], ⟨m, _, _, ow', by rw [e3]; exact h1⟩, h2⟩
  clear hL8 hx8 hx8' CO9 u0 u1 HLV HW9
  go_wp2
  go_ret2
  exact HFIN.out

/-- Ask. -/
theorem ask_any (w : World) (b : Nat) (D : Nat → Prop) (s : Qk.Sts) (S : ByteArray) (hS : S.size ≤ 1000) (who : Int) (z : Bool) (h : Lks w b D s) :
    Calls Try.prog 15 #[.pointer (some ⟨b, 0, none⟩), .int .i64 who, .string S, .bool z] w (AskP w b D s S who z) := by
  by_cases hw : who < 0 ∨ 8 ≤ who
  · exact ask_arg w b D s S who z h hw
  · obtain ⟨p, rfl⟩ : ∃ p : Nat, who = (p : Int) := ⟨who.toNat, by omega⟩
    have hp : p < 8 := by omega
    obtain ⟨m, n, f, ow, h⟩ := h
    rcases h.keys S with ⟨hf, hs⟩ | ⟨c, hf, hne, hL⟩
    · exact ask_new w b D s S hS p z hp h hf hs
    · by_cases h1 : p ∈ (s S).hs
      · exact ask_holds w b D s S hS p z hp h hf hL h1
      · by_cases h2 : p ∈ (s S).row.map Prod.fst
        · exact ask_awaits w b D s S hS p z hp h hf hL h1 h2
        · have he : Qk.askE (s S) p = 0 := by
            unfold Qk.askE
            rw [if_neg (by omega), show (p : Int).toNat = p by omega, if_neg (by rintro (h9 | h9); exact h1 h9; exact h2 h9)]
          cases hb : Qk.askB (s S) p z with
          | true => exact ask_hold w b D s S hS p z hp h hf hL he hb
          | false =>
            cases hq : (s S).row.isEmpty with
            | false => exact ask_addq w b D s S hS p z hp h hf hL he hb hq
            | true =>
              cases hl : Qk.lets (s S).hs (s S).wr z with
              | false => exact ask_addl w b D s S hS p z hp h hf hL he hb hq hl
              | true => rw [(Qk.askB_iff _ _ _).2 ⟨he, List.isEmpty_iff.1 hq, hl⟩] at hb; cases hb
/-- Free. -/
theorem freeA_any (w : World) (b : Nat) (D : Nat → Prop) (s : Qk.Sts) (S : ByteArray) (hS : S.size ≤ 1000) (who : Int) (h : Lks w b D s) :
    Calls Try.prog 12 #[.pointer (some ⟨b, 0, none⟩), .int .i64 who, .string S] w (FreeP w b D s S who) := by
  by_cases hw : who < 0 ∨ 8 ≤ who
  · exact free_arg w b D s S who h hw
  · obtain ⟨p, rfl⟩ : ∃ p : Nat, who = (p : Int) := ⟨who.toNat, by omega⟩
    by_cases h1 : p ∈ (s S).hs
    · exact free_good w b D s S hS p (by omega) h h1
    · exact free_none w b D s S hS p (by omega) h h1

set_option maxHeartbeats 2000000 in
/-- New. -/
theorem new_any (w : World) : Calls Try.prog 8 #[] w fun e w' => ∃ b D, e = .returned (.pointer (some ⟨b, 0, none⟩)) ∧ Lks w' b D (fun _ => Qk.nob) ∧ Below w.heap.size w w' ∧ ∀ g, D g → w.heap.size ≤ g := by
  have b2 := below2 w (.map #[] 0) (.cells #[.map (some w.heap.size)] 51)
  have hm := (Ap.new (P := Try.prog) (k := 9) w).alloc (.cells #[.map (some w.heap.size)] 51)
  have hb := Has.new (w.alloc (.map #[] 0)) (.cells #[.map (some w.heap.size)] 51)
  rw [World.size_alloc] at hb
  have HF : Hid (Lks ((w.alloc (.map #[] 0)).alloc (.cells #[.map (some w.heap.size)] 51)) (w.heap.size + 1) (fun g => g = w.heap.size ∨ g = w.heap.size + 1) (fun _ => Qk.nob)) :=
    ⟨w.heap.size, 0, _, fun _ => none, hb, hm, (fun x => Or.inl ⟨rfl, rfl⟩), (fun x => Qk.Good.nob), rfl, rfl, Or.inr rfl, Or.inl rfl, (fun g x e => by cases e), (fun g hg => by simp; omega)⟩
  have HB := Lib.hid b2
  have hmm : ∀ W, (Instr.makeMap 49 none).run Try.prog W = .ok (.map (some W.heap.size)) (W.alloc (.map #[] 0)) := fun _ => rfl
  clear b2 hm hb
  go_enter Try.func8, Try.ntmps8
  go_wp2_with fail
  go_ret
  exact ⟨_, _, rfl, HF.out, HB.out, fun g hg => by omega⟩
end Go.Proofs.Ytoipmdemicdhoaa
