/- The statement SlotsHeaders: whatever header and rows lie on a disk, the program's Load answers as the document's. It holds for every input within the model's capacity, without a further condition. -/
import Derived.Test.YtillckjohlbaiaaZrld
import Derived.Test.YtillckjohlbaiaaYdc
import Derived.Test.YtillckjohlbaiaaYst0
import Derived.Test.YtillckjohlbaiaaCarg

namespace Go.Proofs.Ytillckjohlbaiaa
set_option maxRecDepth 100000
open Go.ChangeShapes Go.WideShapes Go.ChangeAt Go.RowKit

theorem Ek.write_used2 (d : Ek.Dk) (i : Int) (bs : List Nat) : (Ek.write d i bs).used ≤ d.used + 1 := by
  unfold Ek.write
  split
  · omega
  · split
    · omega
    · rw [Ek.change_used]; exact Nat.le_refl _
theorem strB_tail' (l : List Nat) (a b : Nat) (h : l.length = b) : (strB l).extract a b = strB (l.drop a) := by
  have e : ∀ m : List Nat, (strB m).data.toList = m.map UInt8.ofNat := fun m => by
    unfold strB
    rw [strOfNums_data, List.map_map]
    congr 1
  apply ByteArray.ext
  apply Array.ext'
  rw [e, ByteArray.data_extract, Array.toList_extract, e, List.extract_eq_take_drop, List.take_of_length_le (by simp; omega), List.map_drop]

theorem Bo.new2 {w0 w w' : World} {b : Nat} {d m : Ek.Dk} {v : Value} {E G F : Nat → Prop} {ws : World} (h : Bo w0 w b d v m E G F ws) (hb : Below w.heap.size w w') : ∃ E', Bo w0 w' b d v m E' G F ws ∧ (∀ k, E k → E' k) ∧ (∀ k, w.heap.size ≤ k → k < w'.heap.size → E' k) :=
  ⟨_, h.new hb, fun _ hk => Or.inl hk, fun _ h1 h2 => Or.inr ⟨h1, h2⟩⟩
theorem Bo.ref2 {w0 w w' : World} {b : Nat} {d m m' : Ek.Dk} {v v' : Value} {E G F : Nat → Prop} {ws : World} (h : Bo w0 w b d v m E G F ws) (hb : Below w.heap.size w w') (hd : DDk w' (fun q => G q ∨ w.heap.size ≤ q) v' m') : ∃ E' G', Bo w0 w' b d v' m' E' G' F ws ∧ (∀ k, E k → E' k) ∧ (∀ k, k < w.heap.size → G' k → G k) ∧ (∀ k, G' k → k < w'.heap.size) :=
  ⟨_, _, h.ref hb hd, fun _ hk => Or.inl hk, fun k h1 hk => by
    rcases hk with h | h
    · exact h
    · omega, fun k hk => by
    rcases hk with hg | hg
    · exact Nat.lt_of_lt_of_le (h.ly.lt k (h.sub k hg)) hb.size
    · exact hg.2⟩

set_option maxRecDepth 100000 in
set_option maxHeartbeats 4000000 in
theorem heads_few (ha : Option Addr) (nh hc : Nat) (ba : Option Addr) (nb bc : Nat) (g m : Nat) (r : Bool) (hL : 1024 < nb ∨ 512 < nh) (w : World) :
    Calls Try.prog 5 #[.slice ha nh hc, .slice ba nb bc, .int .u32 (g : Int), .int .u8 (m : Int), .bool r] w fun e w' => e = .returned (.bool true) ∧ Below w.heap.size w w' := by
  have hL' : decide ((1024 : Int) < (nb : Int)) = true ∨ (decide ((1024 : Int) < (nb : Int)) = false ∧ decide ((512 : Int) < (nh : Int)) = true) := by
    by_cases h : 1024 < nb
    · exact Or.inl (decide_eq_true (by omega))
    · exact Or.inr ⟨decide_eq_false (by omega), decide_eq_true (by omega)⟩
  have LV := Lib.hid (zlives_is w)
  clear hL
  go_enter Try.func5, Try.ntmps5
  rcases hL' with c1 | ⟨c1, c2⟩
  all_goals
    go_wp2_with fail
    refine LV.out.mono ?_
    rintro e w5 ⟨rfl, hb5⟩
    go_wp2_with fail
    go_ret
    exact ⟨rfl, hb5⟩

set_option maxRecDepth 100000 in
set_option maxHeartbeats 8000000 in
theorem heads_false (ha : Option Addr) (nh hc : Nat) (ba : Option Addr) (nb bc : Nat) (g m : Nat) (hb1 : nb ≤ 1024) (hh1 : nh ≤ 512) (bh bb : List Nat) (_hg : g < 4294967296) (_hm : m < 256) (w : World) (hsh : Sl w (.slice ha nh hc) bh) (hsb : Sl w (.slice ba nb bc) bb) :
    Calls Try.prog 5 #[.slice ha nh hc, .slice ba nb bc, .int .u32 (g : Int), .int .u8 (m : Int), .bool false] w fun e w' => e = .returned (.bool true) ∧ Below w.heap.size w w' := by
  have hlh : bh.length = nh := by
    obtain ⟨a', len', cap', e, q1, _⟩ := hsh
    injection e with e1 e2 e3; omega
  have hlb : bb.length = nb := by
    obtain ⟨a', len', cap', e, q1, _⟩ := hsb
    injection e with e1 e2 e3; omega
  have h8h := hsh.facts8
  have h8b := hsb.facts8
  have C1 := Lib.hid (lv_new (Below.refl w.heap.size w) 5 (by decide) (by decide))
  have C2 : Hid (∀ W, Calls Try.prog 14 #[.int .i64 ((5 : Nat) : Int)] W fun e w' => (∃ v', e = .returned (.tuple #[v', .int .i64 0]) ∧ DDk w' (fun q => W.heap.size ≤ q) v' (Ek.fresh 5)) ∧ Below W.heap.size W w') := fun W => rdisk_new W 5 (by decide) (by decide)
  have e5 : ((5 : Nat) : Int) = 5 := rfl
  rw [e5] at C1 C2
  have c1 : decide ((1024 : Int) < (nb : Int)) = false := decide_eq_false (by omega)
  have c2 : decide ((512 : Int) < (nh : Int)) = false := decide_eq_false (by omega)
  have SH := Lib.hid hsh
  have SB := Lib.hid hsb
  obtain ⟨zh, hzh⟩ : ∃ z, z = 512 - nh := ⟨_, rfl⟩
  obtain ⟨zb, hzb⟩ : ∃ z, z = 1024 - nb := ⟨_, rfl⟩
  have ez : (512 : Int) - (nh : Int) = (zh : Int) := by omega
  have eb : (1024 : Int) - (nb : Int) = (zb : Int) := by omega
  have nz : ¬ (9223372036854775807 < nh + zh) := by omega
  have nq : ¬ (9223372036854775807 < nb + zb) := by omega
  have wz : IntKind.i64.wrap (zh : Int) = (zh : Int) := IntWalk.i64_in _ (by omega)
  have wb : IntKind.i64.wrap (zb : Int) = (zb : Int) := IntWalk.i64_in _ (by omega)
  have HMH : Hid (∀ W, (Instr.makeSlice 22 (.int .i64 (zh : Int)) (.int .i64 (zh : Int))).run Try.prog W = .ok (.slice (some ⟨W.heap.size, 0, none⟩) zh zh) (W.alloc (.cells (madeCells #[Value.int .u8 0] zh) 5))) := fun W => run_make_row' (P := Try.prog) 22 5 (.int .u8 0) 1 Try.underlying22 Try.infoU8 rfl .i64 .i64 zh (by omega) (by omega) W
  have HMB : Hid (∀ W, (Instr.makeSlice 22 (.int .i64 (zb : Int)) (.int .i64 (zb : Int))).run Try.prog W = .ok (.slice (some ⟨W.heap.size, 0, none⟩) zb zb) (W.alloc (.cells (madeCells #[Value.int .u8 0] zb) 5))) := fun W => run_make_row' (P := Try.prog) 22 5 (.int .u8 0) 1 Try.underlying22 Try.infoU8 rfl .i64 .i64 zb (by omega) (by omega) W
  have HZH : Hid (∀ W : World, Sl (W.alloc (.cells (madeCells #[Value.int .u8 0] zh) 5)) (.slice (some ⟨W.heap.size, 0, none⟩) zh zh) (List.replicate zh 0)) := fun W => zeros_sl zh (by omega) W
  have HZB : Hid (∀ W : World, Sl (W.alloc (.cells (madeCells #[Value.int .u8 0] zb) 5)) (.slice (some ⟨W.heap.size, 0, none⟩) zb zb) (List.replicate zb 0)) := fun W => zeros_sl zb (by omega) W
  obtain ⟨S1, hS1⟩ : ∃ S, S = strB bh := ⟨_, rfl⟩
  obtain ⟨S2, hS2⟩ : ∃ S, S = strB (List.replicate zh 0) := ⟨_, rfl⟩
  obtain ⟨S3, hS3⟩ : ∃ S, S = strB bb := ⟨_, rfl⟩
  obtain ⟨S4, hS4⟩ : ∃ S, S = strB (List.replicate zb 0) := ⟨_, rfl⟩
  have HS1 := Lib.hid hS1
  have HS2 := Lib.hid hS2
  have HS3 := Lib.hid hS3
  have HS4 := Lib.hid hS4
  have z1 : S1.size = nh := by rw [hS1, strB_size, hlh]
  have z2 : S2.size = zh := by rw [hS2, strB_size, List.length_replicate]
  have z3 : S3.size = nb := by rw [hS3, strB_size, hlb]
  have z4 : S4.size = zb := by rw [hS4, strB_size, List.length_replicate]
  obtain ⟨S34, hS34⟩ : ∃ S, S = S3 ++ S4 := ⟨_, rfl⟩
  have z34 : S34.size = 1024 := by rw [hS34, ByteArray.size_append]; omega
  have h8z : ∀ n, ∀ x ∈ List.replicate n 0, x < 256 := fun n x hx => by rw [List.eq_of_mem_replicate hx]; decide
  have H12 : Hid (S1 ++ S2 = strB (bh ++ List.replicate zh 0) ∧ (∀ x ∈ bh ++ List.replicate zh 0, x < 256) ∧ (bh ++ List.replicate zh 0).length ≤ 1024) := ⟨by rw [hS1, hS2, strB_append], fun x hx => by rcases List.mem_append.1 hx with h | h; exact h8h x h; exact h8z _ x h, by rw [List.length_append, List.length_replicate]; omega⟩
  have HRA : Hid (S34.extract 0 512 = strB ((bb ++ List.replicate zb 0).take 512) ∧ (∀ x ∈ (bb ++ List.replicate zb 0).take 512, x < 256) ∧ ((bb ++ List.replicate zb 0).take 512).length ≤ 1024) := ⟨by rw [hS34, hS3, hS4, ← strB_append, strB_cut'], fun x hx => by rcases List.mem_append.1 (List.mem_of_mem_take hx) with h | h; exact h8b x h; exact h8z _ x h, by rw [List.length_take, List.length_append, List.length_replicate]; omega⟩
  have HRB : Hid (S34.extract 512 1024 = strB ((bb ++ List.replicate zb 0).drop 512) ∧ (∀ x ∈ (bb ++ List.replicate zb 0).drop 512, x < 256) ∧ ((bb ++ List.replicate zb 0).drop 512).length ≤ 1024) := ⟨by rw [hS34, hS3, hS4, ← strB_append]; exact strB_tail' _ 512 1024 (by rw [List.length_append, List.length_replicate]; omega), fun x hx => by rcases List.mem_append.1 (List.mem_of_mem_drop hx) with h | h; exact h8b x h; exact h8z _ x h, by rw [List.length_drop, List.length_append, List.length_replicate]; omega⟩
  have HS34 := Lib.hid hS34
  obtain ⟨T1, hT1⟩ : ∃ T, T = S34.extract 0 512 := ⟨_, rfl⟩
  obtain ⟨T2, hT2⟩ : ∃ T, T = S34.extract 512 1024 := ⟨_, rfl⟩
  have HT1 := Lib.hid hT1
  have HT2 := Lib.hid hT2
  rw [← hT1] at HRA
  rw [← hT2] at HRB
  clear hlh hlb h8h h8b hsh hsb hb1 hh1 _hg _hm hzh hzb hS1 hS2 hS3 hS4 h8z e5 hT1 hT2 hS34
  go_enter Try.func5, Try.ntmps5
  go_wp2_with fail
  refine C1.out.mono ?_
  rintro e w1 ⟨b, rfl, H1⟩
  have H1' := Lib.hid H1
  clear C1 H1
  go_wp2_with fail
  refine (C2.out w1).mono ?_
  rintro e w2 ⟨⟨v2, rfl, hd2⟩, hb2⟩
  obtain ⟨xa, xn, xc, xl, xm, xk, xf, xd, rfl⟩ := hd2.four
  obtain ⟨W3, hW3⟩ : ∃ W, W = w2.alloc (.cells #[.slice xa xn xc, .slice xl xm xk, .int .i64 xf, .bool xd] 40) := ⟨_, rfl⟩
  have hb3 : Below w2.heap.size w2 W3 := by rw [hW3]; exact below1 w2 _
  have hs3 : W3.heap.size = w2.heap.size + 1 := by rw [hW3]; simp
  have hw1 := H1'.out.below.size
  have hz2 := hb2.size
  have O2 : Bo w w2 b (Ek.fresh 5) (.agg #[.slice xa xn xc, .slice xl xm xk, .int .i64 xf, .bool xd]) (Ek.fresh 5) (fun k => False ∨ (w1.heap.size ≤ k ∧ k < w2.heap.size)) (fun k => w1.heap.size ≤ k ∧ k < w2.heap.size) (fun _ => False) w :=
    ⟨H1'.out.ly.new hb2, hd2.lo.mono (fun q hq => hq), fun k hk => Or.inr hk, fun k hk => by rcases hk with h | h; exact h.elim; omega, fun _ h => h.elim⟩
  obtain ⟨B7, hB7⟩ : ∃ B, B = w2.heap.size := ⟨_, rfl⟩
  have T3 := Lib.hid (show Has W3 B7 (.cells #[.slice xa xn xc, .slice xl xm xk, .int .i64 xf, .bool xd] 40) by rw [hW3, hB7]; exact Has.new w2 _)
  obtain ⟨E0, G0, q0, q1, q2⟩ : ∃ E0 G0, Bo w W3 b (Ek.fresh 5) (.agg #[.slice xa xn xc, .slice xl xm xk, .int .i64 xf, .bool xd]) (Ek.fresh 5) E0 G0 (fun _ => False) w ∧ E0 B7 ∧ ¬ G0 B7 := ⟨_, _, O2.new hb3, Or.inr (by omega), show ¬ (w1.heap.size ≤ B7 ∧ B7 < w2.heap.size) by omega⟩
  have P3 := Lib.hid q0
  have HE3 := Lib.hid q1
  have HG3 := Lib.hid q2
  have HW2 := Lib.hid (show w.heap.size ≤ B7 by omega)
  have HB7 := Lib.hid hB7
  have V3 := Lib.hid hW3
  have HU3 := Lib.hid (show (Ek.fresh 5).used ≤ 0 from Nat.le_refl _)
  clear hW3 hb3 hs3 hw1 hz2 O2 hd2 hb2 H1' C2 hB7 q0 q1 q2
  generalize Ek.fresh 5 = d0 at P3 HU3
  go_wp2_with fail
  rw [← V3.out]
  rw [← HB7.out]
  clear V3 HB7
  have B3 := Lib.hid P3.out.below
  refine wp_region_held_drew (S := fun wx => Below W3.heap.size W3 wx) (by kernel_rfl) (below_drewN (Below.refl _ _) 1) (fun _ => ?_)
  change wpAnyH _ _ _ _ _ 9 (Array.replicate 9 false) _ _
  have R0 : Below W3.heap.size W3 W3.drew := below_drewN (Below.refl _ _) 1
  refine wpAnyH_take (i := 0) (v := ?_) rfl (by kernel_rfl) (by kernel_rfl) (by kernel_rfl) (fun _ _ _ h => h) (Or.inl ⟨rfl, ?hy0⟩) R0 ?_
  case hy0 => intro w' hw'; clear hw'; go_simp; first | done | rfl
  try simp only [Act.put, List.getElem_toArray, List.getElem_cons_zero, List.setIfInBounds_toArray, List.set_cons_zero, List.set_cons_succ]
  refine wpAnyH_take (i := 1) (v := ?_) rfl (by kernel_rfl) (by kernel_rfl) (by kernel_rfl) (fun _ _ _ h => h) (Or.inl ⟨rfl, ?hy1⟩) R0 ?_
  case hy1 => intro w' hw'; have hcv := string_of w' _ _ _ _ S1 (SH.out.later (B3.out.trans (hw'.mono B3.out.size))) HS1; clear hw'; go_simp; first | done | rfl
  try simp only [Act.put, List.getElem_toArray, List.getElem_cons_zero, List.getElem_cons_succ, List.setIfInBounds_toArray, List.set_cons_zero, List.set_cons_succ]
  refine wpAnyH_take (i := 2) (v := ?_) rfl (by kernel_rfl) (by kernel_rfl) (by kernel_rfl) (fun _ _ _ h => h) (Or.inl ⟨rfl, ?hy2⟩) R0 ?_
  case hy2 => intro w' hw'; clear hw'; go_simp; first | done | rfl
  try simp only [Act.put, List.getElem_toArray, List.getElem_cons_zero, List.getElem_cons_succ, List.setIfInBounds_toArray, List.set_cons_zero, List.set_cons_succ]
  refine wpAnyH_take (i := 3) (v := ?_) rfl (by kernel_rfl) (by kernel_rfl) (by kernel_rfl) (fun _ _ _ h => h) (Or.inl ⟨rfl, ?hy3⟩) R0 ?_
  case hy3 => intro w' hw'; clear hw'; go_simp; first | done | rfl
  try simp only [Act.put, List.getElem_toArray, List.getElem_cons_zero, List.getElem_cons_succ, List.setIfInBounds_toArray, List.set_cons_zero, List.set_cons_succ]
  refine wpAnyH_take (i := 4) (v := ?_) rfl (by kernel_rfl) (by kernel_rfl) (by kernel_rfl) (fun _ _ _ h => h) (Or.inl ⟨rfl, ?hy4⟩) R0 ?_
  case hy4 => intro w' hw'; clear hw'; go_simp; first | done | rfl
  try simp only [Act.put, List.getElem_toArray, List.getElem_cons_zero, List.getElem_cons_succ, List.setIfInBounds_toArray, List.set_cons_zero, List.set_cons_succ]
  refine wpAnyH_ready (rs := [5]) (by kernel_rfl) (by simp) ?_
  refine AllReadyH.cons rfl (fun K hK => ?_) AllReadyH.nil
  have hmk := HMH.out W3.drew
  have hzs : Sl (W3.alloc (.cells (madeCells #[Value.int .u8 0] zh) 5)).drew (.slice (some ⟨W3.heap.size, 0, none⟩) zh zh) (List.replicate zh 0) := HZH.out W3.drew
  have hbk : Below W3.heap.size W3 (W3.alloc (.cells (madeCells #[Value.int .u8 0] zh) 5)).drew := R0.trans ((below1 W3.drew _).mono R0.size)
  go_simp
  refine hK.out _ _ hbk (fun _ => ?_)
  clear hK K hmk
  try simp only [Act.put, List.getElem_toArray, List.getElem_cons_zero, List.getElem_cons_succ, List.setIfInBounds_toArray, List.set_cons_zero, List.set_cons_succ]
  obtain ⟨V4, hV4⟩ : ∃ V, V = (W3.alloc (.cells (madeCells #[Value.int .u8 0] zh) 5)).drew := ⟨_, rfl⟩
  rw [← hV4] at hzs hbk ⊢
  have hB4 := hbk
  refine wpAnyH_mono (S' := fun wx => Below V4.heap.size V4 wx) (fun wx h => hB4.trans (h.mono hB4.size)) _ _ _ _ ?_
  have R4 := Below.refl V4.heap.size V4
  have Z4 := Lib.hid hzs
  clear hzs hbk hV4
  refine wpAnyH_take (i := 6) (v := ?_) rfl (by kernel_rfl) (by kernel_rfl) (by kernel_rfl) (fun _ _ _ h => h) (Or.inl ⟨rfl, ?hy6⟩) R4 ?_
  case hy6 => intro w' hw'; have hcv := string_of w' _ _ _ _ S2 (Z4.out.later hw') HS2; clear hw'; go_simp; first | done | rfl
  try simp only [Act.put, List.getElem_toArray, List.getElem_cons_zero, List.getElem_cons_succ, List.setIfInBounds_toArray, List.set_cons_zero, List.set_cons_succ]
  refine wpAnyH_take (i := 7) (v := ?_) rfl (by kernel_rfl) (by kernel_rfl) (by kernel_rfl) (fun _ _ _ h => h) (Or.inl ⟨rfl, ?hy7⟩) R4 ?_
  case hy7 => intro w' hw'; clear hw'; go_simp; first | done | rfl
  try simp only [Act.put, List.getElem_toArray, List.getElem_cons_zero, List.getElem_cons_succ, List.setIfInBounds_toArray, List.set_cons_zero, List.set_cons_succ]
  refine wpAnyH_take (i := 8) (v := ?_) rfl (by kernel_rfl) (by kernel_rfl) (by kernel_rfl) (fun _ _ _ h => h) (Or.inl ⟨rfl, ?hy8⟩) R4 ?_
  case hy8 => intro w' hw'; clear hw'; go_simp; first | done | rfl
  try simp only [Act.put, List.getElem_toArray, List.getElem_cons_zero, List.getElem_cons_succ, List.setIfInBounds_toArray, List.set_cons_zero, List.set_cons_succ]
  refine wpAnyH_done (by kernel_rfl) ?_ _
  clear R4 Z4 R0
  obtain ⟨E4, q0, q1, -⟩ := P3.out.new2 hB4
  have P4 := Lib.hid q0
  have T4 := Lib.hid (T3.out.later hB4)
  have HE4 := Lib.hid (q1 _ HE3.out)
  clear P3 T3 HE3 hB4 B3 q0 q1

  have P5 := P4
  have T5 := T4
  have HE5 := HE4
  clear P4 T4 HE4
  have HF : Hid (∃ l, S1 ++ S2 = strB l ∧ (∀ x ∈ l, x < 256) ∧ l.length ≤ 1024) := ⟨_, H12.out.1, H12.out.2⟩
  generalize S1 ++ S2 = F0 at HF ⊢
  generalize V4 = V5 at *
  generalize E4 = E5 at *
  go_wp2_with fail
  have B5 := Lib.hid P5.out.below
  refine wp_region_held_drew (S := fun wx => Below V5.heap.size V5 wx) (by kernel_rfl) (below_drewN (Below.refl _ _) 1) (fun _ => ?_)
  change wpAnyH _ _ _ _ _ 9 (Array.replicate 9 false) _ _
  have R5 : Below V5.heap.size V5 V5.drew := below_drewN (Below.refl _ _) 1
  refine wpAnyH_take (i := 0) (v := ?_) rfl (by kernel_rfl) (by kernel_rfl) (by kernel_rfl) (fun _ _ _ h => h) (Or.inl ⟨rfl, ?hy0⟩) R5 ?_
  case hy0 => intro w' hw'; clear hw'; go_simp; first | done | rfl
  try simp only [Act.put, List.getElem_toArray, List.getElem_cons_zero, List.setIfInBounds_toArray, List.set_cons_zero, List.set_cons_succ]
  refine wpAnyH_take (i := 1) (v := ?_) rfl (by kernel_rfl) (by kernel_rfl) (by kernel_rfl) (fun _ _ _ h => h) (Or.inl ⟨rfl, ?hy1⟩) R5 ?_
  case hy1 => intro w' hw'; have hcv := string_of w' _ _ _ _ S3 (SB.out.later (B5.out.trans (hw'.mono B5.out.size))) HS3; clear hw'; go_simp; first | done | rfl
  try simp only [Act.put, List.getElem_toArray, List.getElem_cons_zero, List.getElem_cons_succ, List.setIfInBounds_toArray, List.set_cons_zero, List.set_cons_succ]
  refine wpAnyH_take (i := 2) (v := ?_) rfl (by kernel_rfl) (by kernel_rfl) (by kernel_rfl) (fun _ _ _ h => h) (Or.inl ⟨rfl, ?hy2⟩) R5 ?_
  case hy2 => intro w' hw'; clear hw'; go_simp; first | done | rfl
  try simp only [Act.put, List.getElem_toArray, List.getElem_cons_zero, List.getElem_cons_succ, List.setIfInBounds_toArray, List.set_cons_zero, List.set_cons_succ]
  refine wpAnyH_take (i := 3) (v := ?_) rfl (by kernel_rfl) (by kernel_rfl) (by kernel_rfl) (fun _ _ _ h => h) (Or.inl ⟨rfl, ?hy3⟩) R5 ?_
  case hy3 => intro w' hw'; clear hw'; go_simp; first | done | rfl
  try simp only [Act.put, List.getElem_toArray, List.getElem_cons_zero, List.getElem_cons_succ, List.setIfInBounds_toArray, List.set_cons_zero, List.set_cons_succ]
  refine wpAnyH_take (i := 4) (v := ?_) rfl (by kernel_rfl) (by kernel_rfl) (by kernel_rfl) (fun _ _ _ h => h) (Or.inl ⟨rfl, ?hy4⟩) R5 ?_
  case hy4 => intro w' hw'; clear hw'; go_simp; first | done | rfl
  try simp only [Act.put, List.getElem_toArray, List.getElem_cons_zero, List.getElem_cons_succ, List.setIfInBounds_toArray, List.set_cons_zero, List.set_cons_succ]
  refine wpAnyH_ready (rs := [5]) (by kernel_rfl) (by simp) ?_
  refine AllReadyH.cons rfl (fun K hK => ?_) AllReadyH.nil
  have hmk := HMB.out V5.drew
  have hzs : Sl (V5.alloc (.cells (madeCells #[Value.int .u8 0] zb) 5)).drew (.slice (some ⟨V5.heap.size, 0, none⟩) zb zb) (List.replicate zb 0) := HZB.out V5.drew
  have hbk : Below V5.heap.size V5 (V5.alloc (.cells (madeCells #[Value.int .u8 0] zb) 5)).drew := R5.trans ((below1 V5.drew _).mono R5.size)
  go_simp
  refine hK.out _ _ hbk (fun _ => ?_)
  clear hK K hmk
  try simp only [Act.put, List.getElem_toArray, List.getElem_cons_zero, List.getElem_cons_succ, List.setIfInBounds_toArray, List.set_cons_zero, List.set_cons_succ]
  obtain ⟨V6, hV6⟩ : ∃ V, V = (V5.alloc (.cells (madeCells #[Value.int .u8 0] zb) 5)).drew := ⟨_, rfl⟩
  rw [← hV6] at hzs hbk ⊢
  have hB6 := hbk
  refine wpAnyH_mono (S' := fun wx => Below V6.heap.size V6 wx) (fun wx h => hB6.trans (h.mono hB6.size)) _ _ _ _ ?_
  have R6 := Below.refl V6.heap.size V6
  have Z6 := Lib.hid hzs
  clear hzs hbk hV6
  refine wpAnyH_take (i := 6) (v := ?_) rfl (by kernel_rfl) (by kernel_rfl) (by kernel_rfl) (fun _ _ _ h => h) (Or.inl ⟨rfl, ?hy6⟩) R6 ?_
  case hy6 => intro w' hw'; have hcv := string_of w' _ _ _ _ S4 (Z6.out.later hw') HS4; clear hw'; go_simp; first | done | rfl
  try simp only [Act.put, List.getElem_toArray, List.getElem_cons_zero, List.getElem_cons_succ, List.setIfInBounds_toArray, List.set_cons_zero, List.set_cons_succ]
  refine wpAnyH_take (i := 7) (v := ?_) rfl (by kernel_rfl) (by kernel_rfl) (by kernel_rfl) (fun _ _ _ h => h) (Or.inl ⟨rfl, ?hy7⟩) R6 ?_
  case hy7 => intro w' hw'; clear hw'; go_simp; first | done | rfl
  try simp only [Act.put, List.getElem_toArray, List.getElem_cons_zero, List.getElem_cons_succ, List.setIfInBounds_toArray, List.set_cons_zero, List.set_cons_succ]
  refine wpAnyH_take (i := 8) (v := ?_) rfl (by kernel_rfl) (by kernel_rfl) (by kernel_rfl) (fun _ _ _ h => h) (Or.inl ⟨rfl, ?hy8⟩) R6 ?_
  case hy8 => intro w' hw'; clear hw'; go_simp; first | done | rfl
  try simp only [Act.put, List.getElem_toArray, List.getElem_cons_zero, List.getElem_cons_succ, List.setIfInBounds_toArray, List.set_cons_zero, List.set_cons_succ]
  refine wpAnyH_done (by kernel_rfl) ?_ _
  clear R6 Z6 R5
  obtain ⟨E6, q0, q1, -⟩ := P5.out.new2 hB6
  have P6 := Lib.hid q0
  have T6 := Lib.hid (T5.out.later hB6)
  have HE6 := Lib.hid (q1 _ HE5.out)
  clear P5 T5 HE5 hB6 B5 q0 q1
  rw [← HS34.out]
  go_wp2_with fail
  have R7 : Below V6.heap.size V6 V6.drew := below_drewN (Below.refl _ _) 1
  refine wp_region_held_drew (S := fun wx => Below V6.heap.size V6 wx) (by kernel_rfl) R7 (fun _ => ?_)
  change wpAnyH _ _ _ _ _ 11 (Array.replicate 11 false) _ _
  refine wpAnyH_take (i := 0) (v := ?_) rfl (by kernel_rfl) (by kernel_rfl) (by kernel_rfl) (fun _ _ _ h => h) (Or.inl ⟨rfl, ?hy0⟩) R7 ?_
  case hy0 => intro w' hw'; clear hw'; go_simp; first | done | rfl
  try simp only [Act.put, List.getElem_toArray, List.getElem_cons_zero, List.setIfInBounds_toArray, List.set_cons_zero, List.set_cons_succ]
  refine wpAnyH_take (i := 1) (v := ?_) rfl (by kernel_rfl) (by kernel_rfl) (by kernel_rfl) (fun _ _ _ h => h) (Or.inl ⟨rfl, ?hy1⟩) R7 ?_
  case hy1 => intro w' hw'; clear hw'; go_simp; first | done | rfl
  try simp only [Act.put, List.getElem_toArray, List.getElem_cons_zero, List.getElem_cons_succ, List.setIfInBounds_toArray, List.set_cons_zero, List.set_cons_succ]
  refine wpAnyH_take (i := 2) (v := ?_) rfl (by kernel_rfl) (by kernel_rfl) (by kernel_rfl) (fun _ _ _ h => h) (Or.inl ⟨rfl, ?hy2⟩) R7 ?_
  case hy2 => intro w' hw'; clear hw'; go_simp; first | done | rfl
  try simp only [Act.put, List.getElem_toArray, List.getElem_cons_zero, List.getElem_cons_succ, List.setIfInBounds_toArray, List.set_cons_zero, List.set_cons_succ]
  refine wpAnyH_take (i := 3) (v := ?_) rfl (by kernel_rfl) (by kernel_rfl) (by kernel_rfl) (fun _ _ _ h => h) (Or.inl ⟨rfl, ?hy3⟩) R7 ?_
  case hy3 => intro w' hw'; clear hw'; go_simp; first | done | rfl
  try simp only [Act.put, List.getElem_toArray, List.getElem_cons_zero, List.getElem_cons_succ, List.setIfInBounds_toArray, List.set_cons_zero, List.set_cons_succ]
  refine wpAnyH_take (i := 4) (v := ?_) rfl (by kernel_rfl) (by kernel_rfl) (by kernel_rfl) (fun _ _ _ h => h) (Or.inl ⟨rfl, ?hy4⟩) R7 ?_
  case hy4 => intro w' hw'; clear hw'; go_simp; first | done | rfl
  try simp only [Act.put, List.getElem_toArray, List.getElem_cons_zero, List.getElem_cons_succ, List.setIfInBounds_toArray, List.set_cons_zero, List.set_cons_succ]
  refine wpAnyH_take (i := 5) (v := ?_) rfl (by kernel_rfl) (by kernel_rfl) (by kernel_rfl) (fun _ _ _ h => h) (Or.inl ⟨rfl, ?hy5⟩) R7 ?_
  case hy5 => intro w' hw'; clear hw'; go_simp; first | done | rfl
  try simp only [Act.put, List.getElem_toArray, List.getElem_cons_zero, List.getElem_cons_succ, List.setIfInBounds_toArray, List.set_cons_zero, List.set_cons_succ]
  refine wpAnyH_take (i := 6) (v := ?_) rfl (by kernel_rfl) (by kernel_rfl) (by kernel_rfl) (fun _ _ _ h => h) (Or.inl ⟨rfl, ?hy6⟩) R7 ?_
  case hy6 => intro w' hw'; clear hw'; go_simp; first | done | rfl
  try simp only [Act.put, List.getElem_toArray, List.getElem_cons_zero, List.getElem_cons_succ, List.setIfInBounds_toArray, List.set_cons_zero, List.set_cons_succ]
  refine wpAnyH_take (i := 7) (v := ?_) rfl (by kernel_rfl) (by kernel_rfl) (by kernel_rfl) (fun _ _ _ h => h) (Or.inl ⟨rfl, ?hy7⟩) R7 ?_
  case hy7 => intro w' hw'; clear hw'; go_simp; first | done | rfl
  try simp only [Act.put, List.getElem_toArray, List.getElem_cons_zero, List.getElem_cons_succ, List.setIfInBounds_toArray, List.set_cons_zero, List.set_cons_succ]
  refine wpAnyH_take (i := 8) (v := ?_) rfl (by kernel_rfl) (by kernel_rfl) (by kernel_rfl) (fun _ _ _ h => h) (Or.inl ⟨rfl, ?hy8⟩) R7 ?_
  case hy8 => intro w' hw'; clear hw'; go_simp; first | done | rfl
  try simp only [Act.put, List.getElem_toArray, List.getElem_cons_zero, List.getElem_cons_succ, List.setIfInBounds_toArray, List.set_cons_zero, List.set_cons_succ]
  refine wpAnyH_ready (rs := [9]) (by kernel_rfl) (by simp) ?_
  refine AllReadyH.cons rfl (fun K hK => ?_) AllReadyH.nil
  have hbk : Below V6.heap.size V6 (V6.alloc (.cells #[.string F0, .string (S34.extract 0 512), .string (S34.extract 512 1024), .string (S34.extract 0 512), .string (S34.extract 512 1024)] 9)).drew := R7.trans ((below1 V6.drew _).mono R7.size)
  go_simp
  refine hK.out _ _ hbk (fun _ => ?_)
  clear hK K
  try simp only [Act.put, List.getElem_toArray, List.getElem_cons_zero, List.getElem_cons_succ, List.setIfInBounds_toArray, List.set_cons_zero, List.set_cons_succ]
  refine wpAnyH_take (i := 10) (v := ?_) rfl (by kernel_rfl) (by kernel_rfl) (by kernel_rfl) (fun _ _ _ h => h) (Or.inl ⟨rfl, ?hy10⟩) hbk ?_
  case hy10 => intro w' hw'; clear hw'; go_simp; first | done | rfl
  try simp only [Act.put, List.getElem_toArray, List.getElem_cons_zero, List.getElem_cons_succ, List.setIfInBounds_toArray, List.set_cons_zero, List.set_cons_succ]
  refine wpAnyH_done (by kernel_rfl) ?_ _
  have HRW : Hid (∀ i, i < 5 → ∃ l, (#[.string F0, .string (S34.extract 0 512), .string (S34.extract 512 1024), .string (S34.extract 0 512), .string (S34.extract 512 1024)] : Array Value)[i]? = some (.string (strB l)) ∧ (∀ x ∈ l, x < 256) ∧ l.length ≤ 1024) := fun i hi => by
    obtain ⟨l, h1, h2, h3⟩ := HF.out
    rcases (by omega : i = 0 ∨ i = 1 ∨ i = 2 ∨ i = 3 ∨ i = 4) with rfl | rfl | rfl | rfl | rfl
    · exact ⟨l, by rw [h1]; rfl, h2, h3⟩
    · exact ⟨_, by rw [← HT1.out, HRA.out.1]; rfl, HRA.out.2⟩
    · exact ⟨_, by rw [← HT2.out, HRB.out.1]; rfl, HRB.out.2⟩
    · exact ⟨_, by rw [← HT1.out, HRA.out.1]; rfl, HRA.out.2⟩
    · exact ⟨_, by rw [← HT2.out, HRB.out.1]; rfl, HRB.out.2⟩
  have n7 : Has (V6.alloc (.cells #[.string F0, .string (S34.extract 0 512), .string (S34.extract 512 1024), .string (S34.extract 0 512), .string (S34.extract 512 1024)] 9)).drew V6.heap.size (.cells #[.string F0, .string (S34.extract 0 512), .string (S34.extract 512 1024), .string (S34.extract 0 512), .string (S34.extract 512 1024)] 9) := Has.new V6 _
  have z7 : (V6.alloc (.cells #[.string F0, .string (S34.extract 0 512), .string (S34.extract 512 1024), .string (S34.extract 0 512), .string (S34.extract 512 1024)] 9)).drew.heap.size = V6.heap.size + 1 := by show (V6.alloc _).heap.size = _; simp
  obtain ⟨V7, hV7⟩ : ∃ V, V = (V6.alloc (.cells #[.string F0, .string (S34.extract 0 512), .string (S34.extract 512 1024), .string (S34.extract 0 512), .string (S34.extract 512 1024)] 9)).drew := ⟨_, rfl⟩
  rw [← hV7] at hbk n7 z7 ⊢
  obtain ⟨CS, hCS⟩ : ∃ C, C = (#[.string F0, .string (S34.extract 0 512), .string (S34.extract 512 1024), .string (S34.extract 0 512), .string (S34.extract 512 1024)] : Array Value) := ⟨_, rfl⟩
  rw [← hCS] at HRW n7
  obtain ⟨AB, hAB⟩ : ∃ A, A = V6.heap.size := ⟨_, rfl⟩
  obtain ⟨E7, q0, q1, q2⟩ := P6.out.new2 hbk
  have P7 := Lib.hid q0
  have T7 := Lib.hid (T6.out.later hbk)
  have HE7 := Lib.hid (q1 _ HE6.out)
  have HA7 := Lib.hid (q2 AB (by omega) (by omega))
  have HGA : Hid (¬ G0 AB) := fun h => by have := P6.out.ly.lt _ (P6.out.sub _ h); omega
  have N7 := Lib.hid (show Has V7 AB (.cells CS 9) by rw [hAB]; exact n7)
  have HAW := Lib.hid (show w.heap.size ≤ AB by have := P6.out.below.size; omega)
  have HNE := Lib.hid (show B7 ≠ AB by have := P6.out.ly.lt _ HE6.out; omega)
  rw [← hAB]
  clear q0 q1 q2 hbk n7 z7 hV7 hCS hAB P6 T6 HE6 R7 HF HRA HRB HT1 HT2 HS34
  go_wp2_with fail
  go_loopw [18] (fun s18 wr => ∃ (i : Nat) (d : Ek.Dk) (xa : Option Addr) (xn xc : Nat) (xl : Option Addr) (xm xk : Nat) (xf : Int) (xd : Bool) (E G : Nat → Prop), s18 = .int .i64 (i : Int) ∧ i ≤ 5 ∧ Hid (Bo w wr b d (.agg #[.slice xa xn xc, .slice xl xm xk, .int .i64 xf, .bool xd]) d E G (fun _ => False) w) ∧ Hid (Has wr B7 (.cells #[.slice xa xn xc, .slice xl xm xk, .int .i64 xf, .bool xd] 40)) ∧ Hid (E B7 ∧ ¬ G B7) ∧ Hid (d.used ≤ i) ∧ Hid (Has wr AB (.cells CS 9)) ∧ Hid (E AB ∧ ¬ G AB)) (fun s18 _ => 5 - (intOf s18).toNat)
  case atStart => exact ⟨0, d0, xa, xn, xc, xl, xm, xk, xf, xd, _, _, by go_num, by omega, P7, T7, ⟨HE7.out, HG3.out⟩, HU3, N7, ⟨HA7.out, HGA.out⟩⟩
  clear P7 T7 HE7 HG3 HU3 N7 HA7 HGA
  case round =>
    obtain ⟨i, d, xa, xn, xc, xl, xm, xk, xf, xd, E, G, rfl, hi, KP, KT, KE, KU, KN, KA⟩ := hrel
    by_cases hlt : i < 5
    · have j0 : decide ((i : Int) < 5) = true := decide_eq_true (by omega)
      have j1 : (0 : Int) ≤ (i : Int) := by omega
      have j2 : (i : Int) < 5 := by omega
      obtain ⟨l, hcs, hl8, hll⟩ := HRW.out i hlt
      obtain ⟨S, hS⟩ : ∃ S, S = strB l := ⟨_, rfl⟩
      rw [← hS] at hcs
      have D0 := below_drewN (Below.refl wr.heap.size wr) 1
      have P0 := Lib.hid (show Bo w wr.drew b d _ d E G _ _ from KP.out.later D0)
      have i0 : Has wr.drew B7 (.cells #[.slice xa xn xc, .slice xl xm xk, .int .i64 xf, .bool xd] 40) ∧ Has wr.drew AB (.cells CS 9) ∧ Below w.heap.size w wr.drew := ⟨KT.out.later D0, KN.out.later D0, P0.out.below⟩
      have hu : Hid (d.used ≤ 900) := by have := KU.out; show _ ≤ _; omega
      have HLT := Lib.hid hlt
      have HS := Lib.hid hS
      have HL8 := Lib.hid hl8
      have HLL := Lib.hid hll
      have HCS : Hid (∀ W, Has W AB (.cells CS 9) → W.cell? ⟨AB, i, none⟩ = some (.string S)) := fun W hW => (hW.cell i).trans hcs
      clear D0 KP KT KN hcs hS hl8 hll hlt
      go_wp2_with fail
      refine wp_region_held_drew (S := fun wx => Has wx B7 (.cells #[.slice xa xn xc, .slice xl xm xk, .int .i64 xf, .bool xd] 40) ∧ Has wx AB (.cells CS 9) ∧ Below w.heap.size w wx) (by kernel_rfl) i0 (fun _ => ?_)
      change wpAnyH _ _ _ _ _ 13 (Array.replicate 13 false) _ _
      refine wpAnyH_take (i := 0) (v := .agg #[.slice xa xn xc, .slice xl xm xk, .int .i64 xf, .bool xd]) rfl (by kernel_rfl) (by kernel_rfl) (by kernel_rfl) (fun _ _ _ h => h) (Or.inl ⟨rfl, ?hy0⟩) i0 ?_
      case hy0 =>
        intro w' hw'
        exact exec_row (.tmp 13) rfl B7 rfl 40 _ (0, 0) _ hw'.1 Try.underlying40 rfl Try.infoDisk4
      try simp only [Act.put, List.getElem_toArray, List.getElem_cons_zero, List.setIfInBounds_toArray, List.set_cons_zero, List.set_cons_succ]
      refine wpAnyH_take (i := 1) (v := ?_) rfl (by kernel_rfl) (by kernel_rfl) (by kernel_rfl) (fun _ _ _ h => h) (Or.inl ⟨rfl, ?hy1⟩) i0 ?_
      case hy1 => intro w' hw'; clear hw'; go_simp; first | done | rfl
      try simp only [Act.put, List.getElem_toArray, List.getElem_cons_zero, List.getElem_cons_succ, List.setIfInBounds_toArray, List.set_cons_zero, List.set_cons_succ]
      refine wpAnyH_take (i := 2) (v := ?_) rfl (by kernel_rfl) (by kernel_rfl) (by kernel_rfl) (fun _ _ _ h => h) (Or.inl ⟨rfl, ?hy2⟩) i0 ?_
      case hy2 => intro w' hw'; clear hw'; go_simp; first | done | rfl
      try simp only [Act.put, List.getElem_toArray, List.getElem_cons_zero, List.getElem_cons_succ, List.setIfInBounds_toArray, List.set_cons_zero, List.set_cons_succ]
      refine wpAnyH_take (i := 3) (v := ?_) rfl (by kernel_rfl) (by kernel_rfl) (by kernel_rfl) (fun _ _ _ h => h) (Or.inl ⟨rfl, ?hy3⟩) i0 ?_
      case hy3 => intro w' hw'; clear hw'; go_simp; first | done | rfl
      try simp only [Act.put, List.getElem_toArray, List.getElem_cons_zero, List.getElem_cons_succ, List.setIfInBounds_toArray, List.set_cons_zero, List.set_cons_succ]
      refine wpAnyH_take (i := 4) (v := ?_) rfl (by kernel_rfl) (by kernel_rfl) (by kernel_rfl) (fun _ _ _ h => h) (Or.inl ⟨rfl, ?hy4⟩) i0 ?_
      case hy4 => intro w' hw'; clear hw'; go_simp; first | done | rfl
      try simp only [Act.put, List.getElem_toArray, List.getElem_cons_zero, List.getElem_cons_succ, List.setIfInBounds_toArray, List.set_cons_zero, List.set_cons_succ]
      refine wpAnyH_take (i := 5) (v := ?_) rfl (by kernel_rfl) (by kernel_rfl) (by kernel_rfl) (fun _ _ _ h => h) (Or.inl ⟨rfl, ?hy5⟩) i0 ?_
      case hy5 => intro w' hw'; have f0 := HCS.out w' hw'.2.1; clear hw'; go_simp; first | done | rfl
      try simp only [Act.put, List.getElem_toArray, List.getElem_cons_zero, List.getElem_cons_succ, List.setIfInBounds_toArray, List.set_cons_zero, List.set_cons_succ]
      have CW := Lib.hid (fun W m (hP : DDk W G (.agg #[.slice xa xn xc, .slice xl xm xk, .int .i64 xf, .bool xd]) m) (hm : m.used < 1000000) => rdisk_write_any W G _ m hP (i : Int) l HL8.out hm)
      rw [← HS.out] at CW
      refine wpAnyH_ready (rs := [6, 10]) (by kernel_rfl) (by simp) ?_
      refine AllReadyH.cons rfl (fun K hK => ?_) (AllReadyH.cons rfl (fun K hK => ?_) AllReadyH.nil)
      · go_simp
        refine (CW.out _ _ P0.out.doc (by have := hu.out; omega)).mono ?_
        rintro e w2 ⟨⟨v2, rfl, hd2⟩, hb2⟩
        obtain ⟨ya, yn, yc, yl, ym, yk, yf, yd, rfl⟩ := hd2.four
        obtain ⟨E2, G2, q0, q1, q2, q3⟩ := P0.out.ref2 hb2 hd2
        have i2 : Has w2 B7 (.cells #[.slice xa xn xc, .slice xl xm xk, .int .i64 xf, .bool xd] 40) ∧ Has w2 AB (.cells CS 9) ∧ Below w.heap.size w w2 := ⟨i0.1.later hb2, i0.2.1.later hb2, q0.below⟩
        have b3 := below1 w2 (.cells #[.slice none 0 0, .slice none 0 0, .int .i64 0, .bool false] 40)
        have i3 : Has (w2.alloc (.cells #[.slice none 0 0, .slice none 0 0, .int .i64 0, .bool false] 40)) B7 (.cells #[.slice xa xn xc, .slice xl xm xk, .int .i64 xf, .bool xd] 40) ∧ Has (w2.alloc (.cells #[.slice none 0 0, .slice none 0 0, .int .i64 0, .bool false] 40)) AB (.cells CS 9) ∧ Below w.heap.size w (w2.alloc (.cells #[.slice none 0 0, .slice none 0 0, .int .i64 0, .bool false] 40)) := ⟨i2.1.later b3, i2.2.1.later b3, i2.2.2.trans (b3.mono i2.2.2.size)⟩
        have hw2 := q0.below.size
        have hB7l : B7 < wr.drew.heap.size := P0.out.ly.lt B7 KE.out.1
        have hABl : AB < wr.drew.heap.size := P0.out.ly.lt AB KA.out.1
        have hbz := hb2.size
        have n3 : Has (w2.alloc (.cells #[.slice none 0 0, .slice none 0 0, .int .i64 0, .bool false] 40)) w2.heap.size (.cells #[.slice none 0 0, .slice none 0 0, .int .i64 0, .bool false] 40) := Has.new w2 _
        have i5 : Has ((w2.alloc (.cells #[.slice none 0 0, .slice none 0 0, .int .i64 0, .bool false] 40)).setRow w2.heap.size #[.slice ya yn yc, .slice yl ym yk, .int .i64 yf, .bool yd]) B7 (.cells #[.slice xa xn xc, .slice xl xm xk, .int .i64 xf, .bool xd] 40) ∧ Has ((w2.alloc (.cells #[.slice none 0 0, .slice none 0 0, .int .i64 0, .bool false] 40)).setRow w2.heap.size #[.slice ya yn yc, .slice yl ym yk, .int .i64 yf, .bool yd]) AB (.cells CS 9) ∧ Below w.heap.size w ((w2.alloc (.cells #[.slice none 0 0, .slice none 0 0, .int .i64 0, .bool false] 40)).setRow w2.heap.size #[.slice ya yn yc, .slice yl ym yk, .int .i64 yf, .bool yd]) := ⟨has_row i3.1 (by omega) _, has_row i3.2.1 (by omega) _, below_setRow i3.2.2 (by omega) _⟩
        obtain ⟨E3, O3, p1, p2⟩ := q0.new2 b3
        have hz3 : (w2.alloc (.cells #[.slice none 0 0, .slice none 0 0, .int .i64 0, .bool false] 40)).heap.size = w2.heap.size + 1 := by simp
        have P5 := Lib.hid (O3.tch w2.heap.size (p2 _ (Nat.le_refl _) (by omega)) (fun h => by have := q0.ly.lt _ (q0.sub _ h); omega) (by omega) (tch_row (w2.alloc (.cells #[.slice none 0 0, .slice none 0 0, .int .i64 0, .bool false] 40)) w2.heap.size #[.slice ya yn yc, .slice yl ym yk, .int .i64 yf, .bool yd]))
        have T5 := Lib.hid (show Has ((w2.alloc (.cells #[.slice none 0 0, .slice none 0 0, .int .i64 0, .bool false] 40)).setRow w2.heap.size #[.slice ya yn yc, .slice yl ym yk, .int .i64 yf, .bool yd]) w2.heap.size (.cells #[.slice ya yn yc, .slice yl ym yk, .int .i64 yf, .bool yd] 40) from setRow_heap _ _ _ _ _ _ n3)
        have Z5 := Lib.hid i5.1
        have N5 := Lib.hid i5.2.1
        have HE5 : Hid (E3 B7 ∧ ¬ G2 B7) := ⟨p1 _ (q1 _ KE.out.1), fun h => KE.out.2 (q2 _ hB7l h)⟩
        have HA5 : Hid (E3 AB ∧ ¬ G2 AB) := ⟨p1 _ (q1 _ KA.out.1), fun h => KA.out.2 (q2 _ hABl h)⟩
        clear b3 hw2 O3 hB7l hABl hz3 q0 q1 q2 q3 p1 p2 hd2 hb2 hbz
        dsimp only
        refine hK.out _ _ i2 (fun _ => ?_)
        clear hK K CW
        try simp only [Act.put, List.getElem_toArray, List.getElem_cons_zero, List.getElem_cons_succ, List.setIfInBounds_toArray, List.set_cons_zero, List.set_cons_succ]
        refine wpAnyH_take (i := 7) (v := ?_) rfl (by kernel_rfl) (by kernel_rfl) (by kernel_rfl) (fun _ _ _ h => h) (Or.inl ⟨rfl, ?hy7⟩) i2 ?_
        case hy7 => intro w' hw'; clear hw'; go_simp; first | done | rfl
        try simp only [Act.put, List.getElem_toArray, List.getElem_cons_zero, List.getElem_cons_succ, List.setIfInBounds_toArray, List.set_cons_zero, List.set_cons_succ]
        refine wpAnyH_take (i := 8) (v := ?_) rfl (by kernel_rfl) (by kernel_rfl) (by kernel_rfl) (fun _ _ _ h => h) (Or.inl ⟨rfl, ?hy8⟩) i2 ?_
        case hy8 => intro w' hw'; clear hw'; go_simp; first | done | rfl
        try simp only [Act.put, List.getElem_toArray, List.getElem_cons_zero, List.getElem_cons_succ, List.setIfInBounds_toArray, List.set_cons_zero, List.set_cons_succ]
        refine wpAnyH_take (i := 9) (v := ?_) rfl (by kernel_rfl) (by kernel_rfl) (by kernel_rfl) (fun _ _ _ h => h) (Or.inl ⟨rfl, ?hy9⟩) i2 ?_
        case hy9 => intro w' hw'; clear hw'; go_simp; first | done | rfl
        try simp only [Act.put, List.getElem_toArray, List.getElem_cons_zero, List.getElem_cons_succ, List.setIfInBounds_toArray, List.set_cons_zero, List.set_cons_succ]
        refine wpAnyH_ready (rs := [10]) (by kernel_rfl) (by simp) ?_
        refine AllReadyH.cons rfl (fun K hK => ?_) AllReadyH.nil
        go_simp
        refine hK.out _ _ i3 (fun _ => ?_)
        clear hK K
        try simp only [Act.put, List.getElem_toArray, List.getElem_cons_zero, List.getElem_cons_succ, List.setIfInBounds_toArray, List.set_cons_zero, List.set_cons_succ]
        refine wpAnyH_ready (rs := [11]) (by kernel_rfl) (by simp) ?_
        refine AllReadyH.cons rfl (fun K hK => ?_) AllReadyH.nil
        rw [if_pos (by rfl)]
        refine wp_store_row 40 _ _ rfl w2.heap.size #[.slice ya yn yc, .slice yl ym yk, .int .i64 yf, .bool yd] rfl rfl 40 _ n3 Try.infoDisk4 rfl (by simp [Value.oneCell']) ?_
        refine hK.out _ _ i5 (fun _ => ?_)
        clear hK K
        try simp only [Act.put, List.getElem_toArray, List.getElem_cons_zero, List.getElem_cons_succ]
        refine wpAnyH_take (i := 12) (v := ?_) rfl (by kernel_rfl) (by kernel_rfl) (by kernel_rfl) (fun _ _ _ h => h) (Or.inl ⟨rfl, ?hy12⟩) i5 ?_
        case hy12 => intro w' hw'; clear hw'; go_simp; first | done | rfl
        try simp only [Act.put, List.getElem_toArray, List.getElem_cons_zero, List.getElem_cons_succ, List.setIfInBounds_toArray, List.set_cons_zero, List.set_cons_succ]
        obtain ⟨w5, hw5⟩ : ∃ W, W = (w2.alloc (.cells #[.slice none 0 0, .slice none 0 0, .int .i64 0, .bool false] 40)).setRow w2.heap.size #[.slice ya yn yc, .slice yl ym yk, .int .i64 yf, .bool yd] := ⟨_, rfl⟩
        obtain ⟨X5, hX5⟩ : ∃ X, X = w2.heap.size := ⟨_, rfl⟩
        rw [← hw5] at P5 T5 Z5 N5 ⊢
        rw [← hX5] at T5 ⊢
        clear hw5 hX5 i0 i2 i3 i5 n3
        refine wpAnyH_done (by kernel_rfl) ?_ _
        have P8 := Lib.hid (P5.out.tch B7 HE5.out.1 HE5.out.2 HW2.out (tch_row w5 B7 #[.slice ya yn yc, .slice yl ym yk, .int .i64 yf, .bool yd]))
        have T8 := Lib.hid (show Has (w5.setRow B7 #[.slice ya yn yc, .slice yl ym yk, .int .i64 yf, .bool yd]) B7 (.cells #[.slice ya yn yc, .slice yl ym yk, .int .i64 yf, .bool yd] 40) from setRow_heap _ _ _ _ _ _ Z5.out)
        have N8 := Lib.hid (show Has (w5.setRow B7 #[.slice ya yn yc, .slice yl ym yk, .int .i64 yf, .bool yd]) AB (.cells CS 9) from has_row N5.out HNE.out _)
        have f0 := HCS.out _ N8.out
        obtain ⟨cp, w9, hcv, hsl, hb9, -⟩ := conv_bytes l HL8.out (by have := HLL.out; omega) S HS.out (w5.setRow B7 #[.slice ya yn yc, .slice yl ym yk, .int .i64 yf, .bool yd])
        have hz9 : (w5.setRow B7 #[.slice ya yn yc, .slice yl ym yk, .int .i64 yf, .bool yd]).heap.size = w5.heap.size := by simp
        rw [hz9] at hcv hsl
        have CP := Lib.hid (ly_write P8.out.ly hb9 (i : Int) (.slice (some ⟨w5.heap.size, 0, none⟩) l.length cp) l hsl (fun g off spot len cap e => by injection e with e1 _ _; injection e1 with e1; injection e1 with e1 _ _; subst e1; exact Or.inr (Nat.le_of_eq hz9)) (by have := hu.out; omega))
        have P9 := Lib.hid (P8.out.later hb9)
        have T9 := Lib.hid (T8.out.later hb9)
        have N9 := Lib.hid (N8.out.later hb9)
        have HUW : Hid ((Ek.write d (i : Int) l).used ≤ i + 1) := Nat.le_trans (Ek.write_used2 d i l) (by have := KU.out; omega)
        clear P8 T8 N8 hsl hb9 KU hz9
        generalize Ek.write d (i : Int) l = d9 at CP P9 HUW
        generalize Ek.writeE d (i : Int) l = ee at CP
        generalize l.length = ll at hcv CP
        go_wp2_with (first | (refine wpList_load_row rfl 40 (.tmp 19) rfl X5 rfl 40 _ (0, 0) _ T5.out Try.underlying40 rfl Try.infoDisk4 ?_) | (refine wpList_store_row rfl 40 (.tmp 13) (.tmp 96) rfl B7 #[.slice ya yn yc, .slice yl ym yk, .int .i64 yf, .bool yd] rfl rfl 40 _ Z5.out Try.infoDisk4 rfl (by simp [Value.oneCell']) ?_))
        refine CP.out.mono ?_
        clear CP hcv f0
        rintro e w10 hp
        have hkeep := hp.2.2
        obtain ⟨rfl, O10⟩ := P9.out.prog hp
        have P10 := Lib.hid O10
        have T10 := Lib.hid (show Has w10 B7 (.cells #[.slice ya yn yc, .slice yl ym yk, .int .i64 yf, .bool yd] 40) from (hkeep _ HE5.out.1).trans T9.out)
        have N10 := Lib.hid (show Has w10 AB (.cells CS 9) from (hkeep _ HA5.out.1).trans N9.out)
        clear hp hkeep O10 P9 T9 N9 P5 T5 Z5 N5
        have hlt := HLT.out
        go_wp2_with fail
        go_round
        case rel => exact ⟨i + 1, d9, ya, yn, yc, yl, ym, yk, yf, yd, _, _, by go_num, by omega, P10, T10, HE5, HUW, N10, HA5⟩
        case measure => simp [intOf]; omega
      · have hB7l : B7 < wr.drew.heap.size := P0.out.ly.lt B7 KE.out.1
        have hABl : AB < wr.drew.heap.size := P0.out.ly.lt AB KA.out.1
        have hdz : wr.drew.heap.size = wr.heap.size := rfl
        have bB : Below wr.drew.heap.size wr.drew (wr.alloc (.cells #[.slice none 0 0, .slice none 0 0, .int .i64 0, .bool false] 40)).drew := below1 wr.drew (.cells #[.slice none 0 0, .slice none 0 0, .int .i64 0, .bool false] 40)
        have hzB : (wr.alloc (.cells #[.slice none 0 0, .slice none 0 0, .int .i64 0, .bool false] 40)).drew.heap.size = wr.heap.size + 1 := by show (wr.alloc _).heap.size = _; simp
        have iB : Has (wr.alloc (.cells #[.slice none 0 0, .slice none 0 0, .int .i64 0, .bool false] 40)).drew B7 (.cells #[.slice xa xn xc, .slice xl xm xk, .int .i64 xf, .bool xd] 40) ∧ Has (wr.alloc (.cells #[.slice none 0 0, .slice none 0 0, .int .i64 0, .bool false] 40)).drew AB (.cells CS 9) ∧ Below w.heap.size w (wr.alloc (.cells #[.slice none 0 0, .slice none 0 0, .int .i64 0, .bool false] 40)).drew := ⟨i0.1.later bB, i0.2.1.later bB, i0.2.2.trans (bB.mono i0.2.2.size)⟩
        obtain ⟨EB, PB, p1, p2⟩ := P0.out.new2 bB
        have nB : Has (wr.alloc (.cells #[.slice none 0 0, .slice none 0 0, .int .i64 0, .bool false] 40)).drew wr.heap.size (.cells #[.slice none 0 0, .slice none 0 0, .int .i64 0, .bool false] 40) := Has.new wr _
        have hEX := p2 wr.heap.size (by omega) (by omega)
        have hGX : ¬ G wr.heap.size := fun h => by have := P0.out.ly.lt _ (P0.out.sub _ h); omega
        have CW' := Lib.hid (CW.out _ _ PB.doc (by have := hu.out; omega))
        have HRZ := Lib.hid (show w.heap.size ≤ wr.heap.size from i0.2.2.size)
        go_simp
        refine hK.out _ _ iB (fun _ => ?_)
        clear hK K CW
        try simp only [Act.put, List.getElem_toArray, List.getElem_cons_zero, List.getElem_cons_succ, List.setIfInBounds_toArray, List.set_cons_zero, List.set_cons_succ]
        refine wpAnyH_ready (rs := [6]) (by kernel_rfl) (by simp) ?_
        refine AllReadyH.cons rfl (fun K hK => ?_) AllReadyH.nil
        go_simp
        refine CW'.out.mono ?_
        clear CW'
        rintro e w2 ⟨⟨v2, rfl, hd2⟩, hb2⟩
        obtain ⟨ya, yn, yc, yl, ym, yk, yf, yd, rfl⟩ := hd2.four
        obtain ⟨E2, G2, q0, q1, q2, q3⟩ := PB.ref2 hb2 hd2
        have i2 : Has w2 B7 (.cells #[.slice xa xn xc, .slice xl xm xk, .int .i64 xf, .bool xd] 40) ∧ Has w2 AB (.cells CS 9) ∧ Below w.heap.size w w2 := ⟨iB.1.later hb2, iB.2.1.later hb2, q0.below⟩
        have n2 : Has w2 wr.heap.size (.cells #[.slice none 0 0, .slice none 0 0, .int .i64 0, .bool false] 40) := nB.later hb2
        have i5 : Has (w2.setRow wr.heap.size #[.slice ya yn yc, .slice yl ym yk, .int .i64 yf, .bool yd]) B7 (.cells #[.slice xa xn xc, .slice xl xm xk, .int .i64 xf, .bool xd] 40) ∧ Has (w2.setRow wr.heap.size #[.slice ya yn yc, .slice yl ym yk, .int .i64 yf, .bool yd]) AB (.cells CS 9) ∧ Below w.heap.size w (w2.setRow wr.heap.size #[.slice ya yn yc, .slice yl ym yk, .int .i64 yf, .bool yd]) := ⟨has_row i2.1 (by omega) _, has_row i2.2.1 (by omega) _, below_setRow i2.2.2 HRZ.out _⟩
        have P5 := Lib.hid (q0.tch wr.heap.size (q1 _ hEX) (fun h => hGX (q2 _ (by omega) h)) HRZ.out (tch_row w2 wr.heap.size #[.slice ya yn yc, .slice yl ym yk, .int .i64 yf, .bool yd]))
        have T5 := Lib.hid (show Has (w2.setRow wr.heap.size #[.slice ya yn yc, .slice yl ym yk, .int .i64 yf, .bool yd]) wr.heap.size (.cells #[.slice ya yn yc, .slice yl ym yk, .int .i64 yf, .bool yd] 40) from setRow_heap _ _ _ _ _ _ n2)
        have Z5 := Lib.hid i5.1
        have N5 := Lib.hid i5.2.1
        have HE5 : Hid (E2 B7 ∧ ¬ G2 B7) := ⟨q1 _ (p1 _ KE.out.1), fun h => KE.out.2 (q2 _ (by omega) h)⟩
        have HA5 : Hid (E2 AB ∧ ¬ G2 AB) := ⟨q1 _ (p1 _ KA.out.1), fun h => KA.out.2 (q2 _ (by omega) h)⟩
        clear hB7l hABl hdz bB hzB PB p1 p2 hEX hGX q0 q1 q2 q3 hd2 hb2
        dsimp only
        refine hK.out _ _ i2 (fun _ => ?_)
        clear hK K
        try simp only [Act.put, List.getElem_toArray, List.getElem_cons_zero, List.getElem_cons_succ, List.setIfInBounds_toArray, List.set_cons_zero, List.set_cons_succ]
        refine wpAnyH_take (i := 7) (v := ?_) rfl (by kernel_rfl) (by kernel_rfl) (by kernel_rfl) (fun _ _ _ h => h) (Or.inl ⟨rfl, ?hy7⟩) i2 ?_
        case hy7 => intro w' hw'; clear hw'; go_simp; first | done | rfl
        try simp only [Act.put, List.getElem_toArray, List.getElem_cons_zero, List.getElem_cons_succ, List.setIfInBounds_toArray, List.set_cons_zero, List.set_cons_succ]
        refine wpAnyH_take (i := 8) (v := ?_) rfl (by kernel_rfl) (by kernel_rfl) (by kernel_rfl) (fun _ _ _ h => h) (Or.inl ⟨rfl, ?hy8⟩) i2 ?_
        case hy8 => intro w' hw'; clear hw'; go_simp; first | done | rfl
        try simp only [Act.put, List.getElem_toArray, List.getElem_cons_zero, List.getElem_cons_succ, List.setIfInBounds_toArray, List.set_cons_zero, List.set_cons_succ]
        refine wpAnyH_take (i := 9) (v := ?_) rfl (by kernel_rfl) (by kernel_rfl) (by kernel_rfl) (fun _ _ _ h => h) (Or.inl ⟨rfl, ?hy9⟩) i2 ?_
        case hy9 => intro w' hw'; clear hw'; go_simp; first | done | rfl
        try simp only [Act.put, List.getElem_toArray, List.getElem_cons_zero, List.getElem_cons_succ, List.setIfInBounds_toArray, List.set_cons_zero, List.set_cons_succ]
        refine wpAnyH_ready (rs := [11]) (by kernel_rfl) (by simp) ?_
        refine AllReadyH.cons rfl (fun K hK => ?_) AllReadyH.nil
        rw [if_pos (by rfl)]
        refine wp_store_row 40 _ _ rfl wr.heap.size #[.slice ya yn yc, .slice yl ym yk, .int .i64 yf, .bool yd] rfl rfl 40 _ n2 Try.infoDisk4 rfl (by simp [Value.oneCell']) ?_
        refine hK.out _ _ i5 (fun _ => ?_)
        clear hK K
        try simp only [Act.put, List.getElem_toArray, List.getElem_cons_zero, List.getElem_cons_succ]
        refine wpAnyH_take (i := 12) (v := ?_) rfl (by kernel_rfl) (by kernel_rfl) (by kernel_rfl) (fun _ _ _ h => h) (Or.inl ⟨rfl, ?hy12⟩) i5 ?_
        case hy12 => intro w' hw'; clear hw'; go_simp; first | done | rfl
        try simp only [Act.put, List.getElem_toArray, List.getElem_cons_zero, List.getElem_cons_succ, List.setIfInBounds_toArray, List.set_cons_zero, List.set_cons_succ]
        obtain ⟨w5, hw5⟩ : ∃ W, W = w2.setRow wr.heap.size #[.slice ya yn yc, .slice yl ym yk, .int .i64 yf, .bool yd] := ⟨_, rfl⟩
        obtain ⟨X5, hX5⟩ : ∃ X, X = wr.heap.size := ⟨_, rfl⟩
        rw [← hw5] at P5 T5 Z5 N5 ⊢
        rw [← hX5] at T5 ⊢
        clear hw5 hX5 i0 i2 i5 n2 nB iB
        refine wpAnyH_done (by kernel_rfl) ?_ _
        have P8 := Lib.hid (P5.out.tch B7 HE5.out.1 HE5.out.2 HW2.out (tch_row w5 B7 #[.slice ya yn yc, .slice yl ym yk, .int .i64 yf, .bool yd]))
        have T8 := Lib.hid (show Has (w5.setRow B7 #[.slice ya yn yc, .slice yl ym yk, .int .i64 yf, .bool yd]) B7 (.cells #[.slice ya yn yc, .slice yl ym yk, .int .i64 yf, .bool yd] 40) from setRow_heap _ _ _ _ _ _ Z5.out)
        have N8 := Lib.hid (show Has (w5.setRow B7 #[.slice ya yn yc, .slice yl ym yk, .int .i64 yf, .bool yd]) AB (.cells CS 9) from has_row N5.out HNE.out _)
        have f0 := HCS.out _ N8.out
        obtain ⟨cp, w9, hcv, hsl, hb9, -⟩ := conv_bytes l HL8.out (by have := HLL.out; omega) S HS.out (w5.setRow B7 #[.slice ya yn yc, .slice yl ym yk, .int .i64 yf, .bool yd])
        have hz9 : (w5.setRow B7 #[.slice ya yn yc, .slice yl ym yk, .int .i64 yf, .bool yd]).heap.size = w5.heap.size := by simp
        rw [hz9] at hcv hsl
        have CP := Lib.hid (ly_write P8.out.ly hb9 (i : Int) (.slice (some ⟨w5.heap.size, 0, none⟩) l.length cp) l hsl (fun g off spot len cap e => by injection e with e1 _ _; injection e1 with e1; injection e1 with e1 _ _; subst e1; exact Or.inr (Nat.le_of_eq hz9)) (by have := hu.out; omega))
        have P9 := Lib.hid (P8.out.later hb9)
        have T9 := Lib.hid (T8.out.later hb9)
        have N9 := Lib.hid (N8.out.later hb9)
        have HUW : Hid ((Ek.write d (i : Int) l).used ≤ i + 1) := Nat.le_trans (Ek.write_used2 d i l) (by have := KU.out; omega)
        clear P8 T8 N8 hsl hb9 KU hz9
        generalize Ek.write d (i : Int) l = d9 at CP P9 HUW
        generalize Ek.writeE d (i : Int) l = ee at CP
        generalize l.length = ll at hcv CP
        go_wp2_with (first | (refine wpList_load_row rfl 40 (.tmp 19) rfl X5 rfl 40 _ (0, 0) _ T5.out Try.underlying40 rfl Try.infoDisk4 ?_) | (refine wpList_store_row rfl 40 (.tmp 13) (.tmp 96) rfl B7 #[.slice ya yn yc, .slice yl ym yk, .int .i64 yf, .bool yd] rfl rfl 40 _ Z5.out Try.infoDisk4 rfl (by simp [Value.oneCell']) ?_))
        refine CP.out.mono ?_
        clear CP hcv f0
        rintro e w10 hp
        have hkeep := hp.2.2
        obtain ⟨rfl, O10⟩ := P9.out.prog hp
        have P10 := Lib.hid O10
        have T10 := Lib.hid (show Has w10 B7 (.cells #[.slice ya yn yc, .slice yl ym yk, .int .i64 yf, .bool yd] 40) from (hkeep _ HE5.out.1).trans T9.out)
        have N10 := Lib.hid (show Has w10 AB (.cells CS 9) from (hkeep _ HA5.out.1).trans N9.out)
        clear hp hkeep O10 P9 T9 N9 P5 T5 Z5 N5
        have hlt := HLT.out
        go_wp2_with fail
        go_round
        case rel => exact ⟨i + 1, d9, ya, yn, yc, yl, ym, yk, yf, yd, _, _, by go_num, by omega, P10, T10, HE5, HUW, N10, HA5⟩
        case measure => simp [intOf]; omega
    · have j0 : decide ((i : Int) < 5) = false := decide_eq_false (by omega)
      have CL : Hid (Calls Try.prog 23 #[.pointer (some ⟨b, 0, none⟩)] wr (LoPost wr d)) := by
        obtain ⟨Sx, hd, _⟩ := KP.out.ly
        exact Load_any wr Sx b d hd
      have CR : Hid (∀ W, Below wr.heap.size wr W → Calls Try.prog 24 #[.agg #[.slice xa xn xc, .slice xl xm xk, .int .i64 xf, .bool xd]] W fun e w' => e = .returned (rlv d) ∧ Below W.heap.size W w') := fun W hW => rload_any W G _ d (KP.out.doc.later hW)
      have B9 := Lib.hid KP.out.below
      have T9 := KT
      have LV := Lib.hid zlives_is
      clear hi KP KT KE KU KN KA
      go_wp2_with fail
      refine CL.out.mono ?_
      clear CL
      rintro e w5 ⟨hb5, a5, c5, rfl, hs5, _⟩
      have B5 := Lib.hid (B9.out.trans (hb5.mono B9.out.size))
      have T5 := Lib.hid (T9.out.later hb5)
      have C5 := Lib.hid (CR.out w5 hb5)
      have S5 := Lib.hid hs5
      clear hb5 hs5 CR B9 T9
      unfold rlv at C5
      go_wp2_with (refine wpList_load_row rfl 40 (.tmp 13) rfl B7 rfl 40 _ (0, 0) _ T5.out Try.underlying40 rfl Try.infoDisk4 ?_)
      refine C5.out.mono ?_
      clear C5
      rintro e w6 ⟨rfl, hb6⟩
      have B6 := Lib.hid (B5.out.trans (hb6.mono B5.out.size))
      obtain ⟨LT, hLT⟩ : ∃ S, S = strB (Sk.loadB d) := ⟨_, rfl⟩
      have hcv := string_of w6 a5 (Sk.loadB d).length c5 _ LT (S5.out.later hb6) (Lib.hid hLT)
      rw [← hLT]
      have k1 : (LT.toList == LT.toList) = true := beq_self_eq_true _
      have k2 : (((Sk.loadG d : Nat) : Int) == ((Sk.loadG d : Nat) : Int)) = true := beq_self_eq_true _
      have k3 : (Sk.loadE d == Sk.loadE d) = true := beq_self_eq_true _
      clear hb6 S5 T5 B5 hLT
      generalize ((Sk.loadG d : Nat) : Int) = zg at *
      generalize Sk.loadE d = ze at *
      generalize (Sk.loadB d).length = zl at *
      go_wp2_with fail
      refine (LV.out _).mono ?_
      rintro e w9 ⟨rfl, hb9⟩
      go_wp2_with fail
      go_ret
      exact ⟨rfl, B6.out.trans (hb9.mono B6.out.size)⟩

set_option maxRecDepth 100000 in
set_option maxHeartbeats 8000000 in
theorem heads_true (ha : Option Addr) (nh hc : Nat) (ba : Option Addr) (nb bc : Nat) (g m : Nat) (hb1 : nb ≤ 1024) (hh1 : nh ≤ 512) (bh bb : List Nat) (hg : g < 4294967296) (hm : m < 256) (w : World) (hsh : Sl w (.slice ha nh hc) bh) (hsb : Sl w (.slice ba nb bc) bb) :
    Calls Try.prog 5 #[.slice ha nh hc, .slice ba nb bc, .int .u32 (g : Int), .int .u8 (m : Int), .bool true] w fun e w' => e = .returned (.bool true) ∧ Below w.heap.size w w' := by
  have hlh : bh.length = nh := by
    obtain ⟨a', len', cap', e, q1, _⟩ := hsh
    injection e with e1 e2 e3; omega
  have hlb : bb.length = nb := by
    obtain ⟨a', len', cap', e, q1, _⟩ := hsb
    injection e with e1 e2 e3; omega
  have h8h := hsh.facts8
  have h8b := hsb.facts8
  have C1 := Lib.hid (lv_new (Below.refl w.heap.size w) 5 (by decide) (by decide))
  have C2 : Hid (∀ W, Calls Try.prog 14 #[.int .i64 ((5 : Nat) : Int)] W fun e w' => (∃ v', e = .returned (.tuple #[v', .int .i64 0]) ∧ DDk w' (fun q => W.heap.size ≤ q) v' (Ek.fresh 5)) ∧ Below W.heap.size W w') := fun W => rdisk_new W 5 (by decide) (by decide)
  have e5 : ((5 : Nat) : Int) = 5 := rfl
  rw [e5] at C1 C2
  have c1 : decide ((1024 : Int) < (nb : Int)) = false := decide_eq_false (by omega)
  have c2 : decide ((512 : Int) < (nh : Int)) = false := decide_eq_false (by omega)
  have SH := Lib.hid hsh
  have SB := Lib.hid hsb
  obtain ⟨zh, hzh⟩ : ∃ z, z = 512 - nh := ⟨_, rfl⟩
  obtain ⟨zb, hzb⟩ : ∃ z, z = 1024 - nb := ⟨_, rfl⟩
  have ez : (512 : Int) - (nh : Int) = (zh : Int) := by omega
  have eb : (1024 : Int) - (nb : Int) = (zb : Int) := by omega
  have nz : ¬ (9223372036854775807 < nh + zh) := by omega
  have nq : ¬ (9223372036854775807 < nb + zb) := by omega
  have wz : IntKind.i64.wrap (zh : Int) = (zh : Int) := IntWalk.i64_in _ (by omega)
  have wb : IntKind.i64.wrap (zb : Int) = (zb : Int) := IntWalk.i64_in _ (by omega)
  have HMH : Hid (∀ W, (Instr.makeSlice 22 (.int .i64 (zh : Int)) (.int .i64 (zh : Int))).run Try.prog W = .ok (.slice (some ⟨W.heap.size, 0, none⟩) zh zh) (W.alloc (.cells (madeCells #[Value.int .u8 0] zh) 5))) := fun W => run_make_row' (P := Try.prog) 22 5 (.int .u8 0) 1 Try.underlying22 Try.infoU8 rfl .i64 .i64 zh (by omega) (by omega) W
  have HMB : Hid (∀ W, (Instr.makeSlice 22 (.int .i64 (zb : Int)) (.int .i64 (zb : Int))).run Try.prog W = .ok (.slice (some ⟨W.heap.size, 0, none⟩) zb zb) (W.alloc (.cells (madeCells #[Value.int .u8 0] zb) 5))) := fun W => run_make_row' (P := Try.prog) 22 5 (.int .u8 0) 1 Try.underlying22 Try.infoU8 rfl .i64 .i64 zb (by omega) (by omega) W
  have HZH : Hid (∀ W : World, Sl (W.alloc (.cells (madeCells #[Value.int .u8 0] zh) 5)) (.slice (some ⟨W.heap.size, 0, none⟩) zh zh) (List.replicate zh 0)) := fun W => zeros_sl zh (by omega) W
  have HZB : Hid (∀ W : World, Sl (W.alloc (.cells (madeCells #[Value.int .u8 0] zb) 5)) (.slice (some ⟨W.heap.size, 0, none⟩) zb zb) (List.replicate zb 0)) := fun W => zeros_sl zb (by omega) W
  obtain ⟨S1, hS1⟩ : ∃ S, S = strB bh := ⟨_, rfl⟩
  obtain ⟨S2, hS2⟩ : ∃ S, S = strB (List.replicate zh 0) := ⟨_, rfl⟩
  obtain ⟨S3, hS3⟩ : ∃ S, S = strB bb := ⟨_, rfl⟩
  obtain ⟨S4, hS4⟩ : ∃ S, S = strB (List.replicate zb 0) := ⟨_, rfl⟩
  have HS1 := Lib.hid hS1
  have HS2 := Lib.hid hS2
  have HS3 := Lib.hid hS3
  have HS4 := Lib.hid hS4
  have z1 : S1.size = nh := by rw [hS1, strB_size, hlh]
  have z2 : S2.size = zh := by rw [hS2, strB_size, List.length_replicate]
  have z3 : S3.size = nb := by rw [hS3, strB_size, hlb]
  have z4 : S4.size = zb := by rw [hS4, strB_size, List.length_replicate]
  obtain ⟨S34, hS34⟩ : ∃ S, S = S3 ++ S4 := ⟨_, rfl⟩
  have z34 : S34.size = 1024 := by rw [hS34, ByteArray.size_append]; omega
  have h8z : ∀ n, ∀ x ∈ List.replicate n 0, x < 256 := fun n x hx => by rw [List.eq_of_mem_replicate hx]; decide
  have H12 : Hid (S1 ++ S2 = strB (bh ++ List.replicate zh 0) ∧ (∀ x ∈ bh ++ List.replicate zh 0, x < 256) ∧ (bh ++ List.replicate zh 0).length ≤ 1024) := ⟨by rw [hS1, hS2, strB_append], fun x hx => by rcases List.mem_append.1 hx with h | h; exact h8h x h; exact h8z _ x h, by rw [List.length_append, List.length_replicate]; omega⟩
  have HRA : Hid (S34.extract 0 512 = strB ((bb ++ List.replicate zb 0).take 512) ∧ (∀ x ∈ (bb ++ List.replicate zb 0).take 512, x < 256) ∧ ((bb ++ List.replicate zb 0).take 512).length ≤ 1024) := ⟨by rw [hS34, hS3, hS4, ← strB_append, strB_cut'], fun x hx => by rcases List.mem_append.1 (List.mem_of_mem_take hx) with h | h; exact h8b x h; exact h8z _ x h, by rw [List.length_take, List.length_append, List.length_replicate]; omega⟩
  have HRB : Hid (S34.extract 512 1024 = strB ((bb ++ List.replicate zb 0).drop 512) ∧ (∀ x ∈ (bb ++ List.replicate zb 0).drop 512, x < 256) ∧ ((bb ++ List.replicate zb 0).drop 512).length ≤ 1024) := ⟨by rw [hS34, hS3, hS4, ← strB_append]; exact strB_tail' _ 512 1024 (by rw [List.length_append, List.length_replicate]; omega), fun x hx => by rcases List.mem_append.1 (List.mem_of_mem_drop hx) with h | h; exact h8b x h; exact h8z _ x h, by rw [List.length_drop, List.length_append, List.length_replicate]; omega⟩
  have HS34 := Lib.hid hS34
  obtain ⟨T1, hT1⟩ : ∃ T, T = S34.extract 0 512 := ⟨_, rfl⟩
  obtain ⟨T2, hT2⟩ : ∃ T, T = S34.extract 512 1024 := ⟨_, rfl⟩
  have HT1 := Lib.hid hT1
  have HT2 := Lib.hid hT2
  rw [← hT1] at HRA
  rw [← hT2] at HRB
  obtain ⟨q, hq⟩ : ∃ q, q = m % 3 := ⟨_, rfl⟩
  have m0 : (m : Int).tmod 3 = (q : Int) := by rw [Int.tmod_eq_emod_of_nonneg (by omega)]; omega
  have m1 : IntKind.u8.wrap (q : Int) = (q : Int) := by rw [IntKind.wrap_u8]; omega
  have m2 : IntKind.i64.wrap (q : Int) = (q : Int) := IntWalk.i64_in _ (by omega)
  have m3 : IntKind.i64.wrap (g : Int) = (g : Int) := IntWalk.i64_in _ (by omega)
  have HHD : Hid (∀ W, Calls Try.prog 20 #[.int .i64 (g : Int), .int .i64 (q : Int), .string S3] W fun e w' => e = .returned (.string (strB (Sk.header ⟨g, q, bb.length, Cr.sum 0 bb⟩))) ∧ Below W.heap.size W w') := fun W => rheader_any g q hg (by omega) bb h8b (by omega) S3 HS3 W
  have HHX : Hid ((∀ x ∈ Sk.header ⟨g, q, bb.length, Cr.sum 0 bb⟩, x < 256) ∧ (Sk.header ⟨g, q, bb.length, Cr.sum 0 bb⟩).length ≤ 1024) := ⟨(Sk.header_row _).2, by rw [(Sk.header_row _).1]; decide⟩
  generalize Sk.header ⟨g, q, bb.length, Cr.sum 0 bb⟩ = HDR at HHD HHX
  clear hq
  clear hlh hlb h8h h8b hsh hsb hb1 hh1 hg hm hzh hzb hS1 hS2 hS3 hS4 h8z e5 hT1 hT2 hS34
  go_enter Try.func5, Try.ntmps5
  go_wp2_with fail
  refine C1.out.mono ?_
  rintro e w1 ⟨b, rfl, H1⟩
  have H1' := Lib.hid H1
  clear C1 H1
  go_wp2_with fail
  refine (C2.out w1).mono ?_
  rintro e w2 ⟨⟨v2, rfl, hd2⟩, hb2⟩
  obtain ⟨xa, xn, xc, xl, xm, xk, xf, xd, rfl⟩ := hd2.four
  obtain ⟨W3, hW3⟩ : ∃ W, W = w2.alloc (.cells #[.slice xa xn xc, .slice xl xm xk, .int .i64 xf, .bool xd] 40) := ⟨_, rfl⟩
  have hb3 : Below w2.heap.size w2 W3 := by rw [hW3]; exact below1 w2 _
  have hs3 : W3.heap.size = w2.heap.size + 1 := by rw [hW3]; simp
  have hw1 := H1'.out.below.size
  have hz2 := hb2.size
  have O2 : Bo w w2 b (Ek.fresh 5) (.agg #[.slice xa xn xc, .slice xl xm xk, .int .i64 xf, .bool xd]) (Ek.fresh 5) (fun k => False ∨ (w1.heap.size ≤ k ∧ k < w2.heap.size)) (fun k => w1.heap.size ≤ k ∧ k < w2.heap.size) (fun _ => False) w :=
    ⟨H1'.out.ly.new hb2, hd2.lo.mono (fun q hq => hq), fun k hk => Or.inr hk, fun k hk => by rcases hk with h | h; exact h.elim; omega, fun _ h => h.elim⟩
  obtain ⟨B7, hB7⟩ : ∃ B, B = w2.heap.size := ⟨_, rfl⟩
  have T3 := Lib.hid (show Has W3 B7 (.cells #[.slice xa xn xc, .slice xl xm xk, .int .i64 xf, .bool xd] 40) by rw [hW3, hB7]; exact Has.new w2 _)
  obtain ⟨E0, G0, q0, q1, q2⟩ : ∃ E0 G0, Bo w W3 b (Ek.fresh 5) (.agg #[.slice xa xn xc, .slice xl xm xk, .int .i64 xf, .bool xd]) (Ek.fresh 5) E0 G0 (fun _ => False) w ∧ E0 B7 ∧ ¬ G0 B7 := ⟨_, _, O2.new hb3, Or.inr (by omega), show ¬ (w1.heap.size ≤ B7 ∧ B7 < w2.heap.size) by omega⟩
  have P3 := Lib.hid q0
  have HE3 := Lib.hid q1
  have HG3 := Lib.hid q2
  have HW2 := Lib.hid (show w.heap.size ≤ B7 by omega)
  have HB7 := Lib.hid hB7
  have V3 := Lib.hid hW3
  have HU3 := Lib.hid (show (Ek.fresh 5).used ≤ 0 from Nat.le_refl _)
  clear hW3 hb3 hs3 hw1 hz2 O2 hd2 hb2 H1' C2 hB7 q0 q1 q2
  generalize Ek.fresh 5 = d0 at P3 HU3
  go_wp2_with fail
  rw [← V3.out]
  rw [← HB7.out]
  clear V3 HB7
  have B3 := Lib.hid P3.out.below
  refine wp_region_held_drew (S := fun wx => Below W3.heap.size W3 wx) (by kernel_rfl) (below_drewN (Below.refl _ _) 1) (fun _ => ?_)
  change wpAnyH _ _ _ _ _ 9 (Array.replicate 9 false) _ _
  have R0 : Below W3.heap.size W3 W3.drew := below_drewN (Below.refl _ _) 1
  refine wpAnyH_take (i := 0) (v := ?_) rfl (by kernel_rfl) (by kernel_rfl) (by kernel_rfl) (fun _ _ _ h => h) (Or.inl ⟨rfl, ?hy0⟩) R0 ?_
  case hy0 => intro w' hw'; clear hw'; go_simp; first | done | rfl
  try simp only [Act.put, List.getElem_toArray, List.getElem_cons_zero, List.setIfInBounds_toArray, List.set_cons_zero, List.set_cons_succ]
  refine wpAnyH_take (i := 1) (v := ?_) rfl (by kernel_rfl) (by kernel_rfl) (by kernel_rfl) (fun _ _ _ h => h) (Or.inl ⟨rfl, ?hy1⟩) R0 ?_
  case hy1 => intro w' hw'; have hcv := string_of w' _ _ _ _ S1 (SH.out.later (B3.out.trans (hw'.mono B3.out.size))) HS1; clear hw'; go_simp; first | done | rfl
  try simp only [Act.put, List.getElem_toArray, List.getElem_cons_zero, List.getElem_cons_succ, List.setIfInBounds_toArray, List.set_cons_zero, List.set_cons_succ]
  refine wpAnyH_take (i := 2) (v := ?_) rfl (by kernel_rfl) (by kernel_rfl) (by kernel_rfl) (fun _ _ _ h => h) (Or.inl ⟨rfl, ?hy2⟩) R0 ?_
  case hy2 => intro w' hw'; clear hw'; go_simp; first | done | rfl
  try simp only [Act.put, List.getElem_toArray, List.getElem_cons_zero, List.getElem_cons_succ, List.setIfInBounds_toArray, List.set_cons_zero, List.set_cons_succ]
  refine wpAnyH_take (i := 3) (v := ?_) rfl (by kernel_rfl) (by kernel_rfl) (by kernel_rfl) (fun _ _ _ h => h) (Or.inl ⟨rfl, ?hy3⟩) R0 ?_
  case hy3 => intro w' hw'; clear hw'; go_simp; first | done | rfl
  try simp only [Act.put, List.getElem_toArray, List.getElem_cons_zero, List.getElem_cons_succ, List.setIfInBounds_toArray, List.set_cons_zero, List.set_cons_succ]
  refine wpAnyH_take (i := 4) (v := ?_) rfl (by kernel_rfl) (by kernel_rfl) (by kernel_rfl) (fun _ _ _ h => h) (Or.inl ⟨rfl, ?hy4⟩) R0 ?_
  case hy4 => intro w' hw'; clear hw'; go_simp; first | done | rfl
  try simp only [Act.put, List.getElem_toArray, List.getElem_cons_zero, List.getElem_cons_succ, List.setIfInBounds_toArray, List.set_cons_zero, List.set_cons_succ]
  refine wpAnyH_ready (rs := [5]) (by kernel_rfl) (by simp) ?_
  refine AllReadyH.cons rfl (fun K hK => ?_) AllReadyH.nil
  have hmk := HMH.out W3.drew
  have hzs : Sl (W3.alloc (.cells (madeCells #[Value.int .u8 0] zh) 5)).drew (.slice (some ⟨W3.heap.size, 0, none⟩) zh zh) (List.replicate zh 0) := HZH.out W3.drew
  have hbk : Below W3.heap.size W3 (W3.alloc (.cells (madeCells #[Value.int .u8 0] zh) 5)).drew := R0.trans ((below1 W3.drew _).mono R0.size)
  go_simp
  refine hK.out _ _ hbk (fun _ => ?_)
  clear hK K hmk
  try simp only [Act.put, List.getElem_toArray, List.getElem_cons_zero, List.getElem_cons_succ, List.setIfInBounds_toArray, List.set_cons_zero, List.set_cons_succ]
  obtain ⟨V4, hV4⟩ : ∃ V, V = (W3.alloc (.cells (madeCells #[Value.int .u8 0] zh) 5)).drew := ⟨_, rfl⟩
  rw [← hV4] at hzs hbk ⊢
  have hB4 := hbk
  refine wpAnyH_mono (S' := fun wx => Below V4.heap.size V4 wx) (fun wx h => hB4.trans (h.mono hB4.size)) _ _ _ _ ?_
  have R4 := Below.refl V4.heap.size V4
  have Z4 := Lib.hid hzs
  clear hzs hbk hV4
  refine wpAnyH_take (i := 6) (v := ?_) rfl (by kernel_rfl) (by kernel_rfl) (by kernel_rfl) (fun _ _ _ h => h) (Or.inl ⟨rfl, ?hy6⟩) R4 ?_
  case hy6 => intro w' hw'; have hcv := string_of w' _ _ _ _ S2 (Z4.out.later hw') HS2; clear hw'; go_simp; first | done | rfl
  try simp only [Act.put, List.getElem_toArray, List.getElem_cons_zero, List.getElem_cons_succ, List.setIfInBounds_toArray, List.set_cons_zero, List.set_cons_succ]
  refine wpAnyH_take (i := 7) (v := ?_) rfl (by kernel_rfl) (by kernel_rfl) (by kernel_rfl) (fun _ _ _ h => h) (Or.inl ⟨rfl, ?hy7⟩) R4 ?_
  case hy7 => intro w' hw'; clear hw'; go_simp; first | done | rfl
  try simp only [Act.put, List.getElem_toArray, List.getElem_cons_zero, List.getElem_cons_succ, List.setIfInBounds_toArray, List.set_cons_zero, List.set_cons_succ]
  refine wpAnyH_take (i := 8) (v := ?_) rfl (by kernel_rfl) (by kernel_rfl) (by kernel_rfl) (fun _ _ _ h => h) (Or.inl ⟨rfl, ?hy8⟩) R4 ?_
  case hy8 => intro w' hw'; clear hw'; go_simp; first | done | rfl
  try simp only [Act.put, List.getElem_toArray, List.getElem_cons_zero, List.getElem_cons_succ, List.setIfInBounds_toArray, List.set_cons_zero, List.set_cons_succ]
  refine wpAnyH_done (by kernel_rfl) ?_ _
  clear R4 Z4 R0
  obtain ⟨E4, q0, q1, -⟩ := P3.out.new2 hB4
  have P4 := Lib.hid q0
  have T4 := Lib.hid (T3.out.later hB4)
  have HE4 := Lib.hid (q1 _ HE3.out)
  clear P3 T3 HE3 hB4 B3 q0 q1

  have hcv := string_of V4 ba nb bc bb S3 (SB.out.later P4.out.below) HS3
  go_wp2_with fail
  clear hcv
  refine (HHD.out _).mono ?_
  rintro e V5 ⟨rfl, hb5⟩
  obtain ⟨E5, q0, q1, -⟩ := P4.out.new2 hb5
  have P5 := Lib.hid q0
  have T5 := Lib.hid (T4.out.later hb5)
  have HE5 := Lib.hid (q1 _ HE4.out)
  clear P4 T4 HE4 hb5 HHD q0 q1
  have HF : Hid (∃ l, strB HDR = strB l ∧ (∀ x ∈ l, x < 256) ∧ l.length ≤ 1024) := ⟨HDR, rfl, HHX.out⟩
  generalize strB HDR = F0 at HF ⊢
  go_wp2_with fail
  have B5 := Lib.hid P5.out.below
  refine wp_region_held_drew (S := fun wx => Below V5.heap.size V5 wx) (by kernel_rfl) (below_drewN (Below.refl _ _) 1) (fun _ => ?_)
  change wpAnyH _ _ _ _ _ 9 (Array.replicate 9 false) _ _
  have R5 : Below V5.heap.size V5 V5.drew := below_drewN (Below.refl _ _) 1
  refine wpAnyH_take (i := 0) (v := ?_) rfl (by kernel_rfl) (by kernel_rfl) (by kernel_rfl) (fun _ _ _ h => h) (Or.inl ⟨rfl, ?hy0⟩) R5 ?_
  case hy0 => intro w' hw'; clear hw'; go_simp; first | done | rfl
  try simp only [Act.put, List.getElem_toArray, List.getElem_cons_zero, List.setIfInBounds_toArray, List.set_cons_zero, List.set_cons_succ]
  refine wpAnyH_take (i := 1) (v := ?_) rfl (by kernel_rfl) (by kernel_rfl) (by kernel_rfl) (fun _ _ _ h => h) (Or.inl ⟨rfl, ?hy1⟩) R5 ?_
  case hy1 => intro w' hw'; have hcv := string_of w' _ _ _ _ S3 (SB.out.later (B5.out.trans (hw'.mono B5.out.size))) HS3; clear hw'; go_simp; first | done | rfl
  try simp only [Act.put, List.getElem_toArray, List.getElem_cons_zero, List.getElem_cons_succ, List.setIfInBounds_toArray, List.set_cons_zero, List.set_cons_succ]
  refine wpAnyH_take (i := 2) (v := ?_) rfl (by kernel_rfl) (by kernel_rfl) (by kernel_rfl) (fun _ _ _ h => h) (Or.inl ⟨rfl, ?hy2⟩) R5 ?_
  case hy2 => intro w' hw'; clear hw'; go_simp; first | done | rfl
  try simp only [Act.put, List.getElem_toArray, List.getElem_cons_zero, List.getElem_cons_succ, List.setIfInBounds_toArray, List.set_cons_zero, List.set_cons_succ]
  refine wpAnyH_take (i := 3) (v := ?_) rfl (by kernel_rfl) (by kernel_rfl) (by kernel_rfl) (fun _ _ _ h => h) (Or.inl ⟨rfl, ?hy3⟩) R5 ?_
  case hy3 => intro w' hw'; clear hw'; go_simp; first | done | rfl
  try simp only [Act.put, List.getElem_toArray, List.getElem_cons_zero, List.getElem_cons_succ, List.setIfInBounds_toArray, List.set_cons_zero, List.set_cons_succ]
  refine wpAnyH_take (i := 4) (v := ?_) rfl (by kernel_rfl) (by kernel_rfl) (by kernel_rfl) (fun _ _ _ h => h) (Or.inl ⟨rfl, ?hy4⟩) R5 ?_
  case hy4 => intro w' hw'; clear hw'; go_simp; first | done | rfl
  try simp only [Act.put, List.getElem_toArray, List.getElem_cons_zero, List.getElem_cons_succ, List.setIfInBounds_toArray, List.set_cons_zero, List.set_cons_succ]
  refine wpAnyH_ready (rs := [5]) (by kernel_rfl) (by simp) ?_
  refine AllReadyH.cons rfl (fun K hK => ?_) AllReadyH.nil
  have hmk := HMB.out V5.drew
  have hzs : Sl (V5.alloc (.cells (madeCells #[Value.int .u8 0] zb) 5)).drew (.slice (some ⟨V5.heap.size, 0, none⟩) zb zb) (List.replicate zb 0) := HZB.out V5.drew
  have hbk : Below V5.heap.size V5 (V5.alloc (.cells (madeCells #[Value.int .u8 0] zb) 5)).drew := R5.trans ((below1 V5.drew _).mono R5.size)
  go_simp
  refine hK.out _ _ hbk (fun _ => ?_)
  clear hK K hmk
  try simp only [Act.put, List.getElem_toArray, List.getElem_cons_zero, List.getElem_cons_succ, List.setIfInBounds_toArray, List.set_cons_zero, List.set_cons_succ]
  obtain ⟨V6, hV6⟩ : ∃ V, V = (V5.alloc (.cells (madeCells #[Value.int .u8 0] zb) 5)).drew := ⟨_, rfl⟩
  rw [← hV6] at hzs hbk ⊢
  have hB6 := hbk
  refine wpAnyH_mono (S' := fun wx => Below V6.heap.size V6 wx) (fun wx h => hB6.trans (h.mono hB6.size)) _ _ _ _ ?_
  have R6 := Below.refl V6.heap.size V6
  have Z6 := Lib.hid hzs
  clear hzs hbk hV6
  refine wpAnyH_take (i := 6) (v := ?_) rfl (by kernel_rfl) (by kernel_rfl) (by kernel_rfl) (fun _ _ _ h => h) (Or.inl ⟨rfl, ?hy6⟩) R6 ?_
  case hy6 => intro w' hw'; have hcv := string_of w' _ _ _ _ S4 (Z6.out.later hw') HS4; clear hw'; go_simp; first | done | rfl
  try simp only [Act.put, List.getElem_toArray, List.getElem_cons_zero, List.getElem_cons_succ, List.setIfInBounds_toArray, List.set_cons_zero, List.set_cons_succ]
  refine wpAnyH_take (i := 7) (v := ?_) rfl (by kernel_rfl) (by kernel_rfl) (by kernel_rfl) (fun _ _ _ h => h) (Or.inl ⟨rfl, ?hy7⟩) R6 ?_
  case hy7 => intro w' hw'; clear hw'; go_simp; first | done | rfl
  try simp only [Act.put, List.getElem_toArray, List.getElem_cons_zero, List.getElem_cons_succ, List.setIfInBounds_toArray, List.set_cons_zero, List.set_cons_succ]
  refine wpAnyH_take (i := 8) (v := ?_) rfl (by kernel_rfl) (by kernel_rfl) (by kernel_rfl) (fun _ _ _ h => h) (Or.inl ⟨rfl, ?hy8⟩) R6 ?_
  case hy8 => intro w' hw'; clear hw'; go_simp; first | done | rfl
  try simp only [Act.put, List.getElem_toArray, List.getElem_cons_zero, List.getElem_cons_succ, List.setIfInBounds_toArray, List.set_cons_zero, List.set_cons_succ]
  refine wpAnyH_done (by kernel_rfl) ?_ _
  clear R6 Z6 R5
  obtain ⟨E6, q0, q1, -⟩ := P5.out.new2 hB6
  have P6 := Lib.hid q0
  have T6 := Lib.hid (T5.out.later hB6)
  have HE6 := Lib.hid (q1 _ HE5.out)
  clear P5 T5 HE5 hB6 B5 q0 q1
  rw [← HS34.out]
  go_wp2_with fail
  have R7 : Below V6.heap.size V6 V6.drew := below_drewN (Below.refl _ _) 1
  refine wp_region_held_drew (S := fun wx => Below V6.heap.size V6 wx) (by kernel_rfl) R7 (fun _ => ?_)
  change wpAnyH _ _ _ _ _ 11 (Array.replicate 11 false) _ _
  refine wpAnyH_take (i := 0) (v := ?_) rfl (by kernel_rfl) (by kernel_rfl) (by kernel_rfl) (fun _ _ _ h => h) (Or.inl ⟨rfl, ?hy0⟩) R7 ?_
  case hy0 => intro w' hw'; clear hw'; go_simp; first | done | rfl
  try simp only [Act.put, List.getElem_toArray, List.getElem_cons_zero, List.setIfInBounds_toArray, List.set_cons_zero, List.set_cons_succ]
  refine wpAnyH_take (i := 1) (v := ?_) rfl (by kernel_rfl) (by kernel_rfl) (by kernel_rfl) (fun _ _ _ h => h) (Or.inl ⟨rfl, ?hy1⟩) R7 ?_
  case hy1 => intro w' hw'; clear hw'; go_simp; first | done | rfl
  try simp only [Act.put, List.getElem_toArray, List.getElem_cons_zero, List.getElem_cons_succ, List.setIfInBounds_toArray, List.set_cons_zero, List.set_cons_succ]
  refine wpAnyH_take (i := 2) (v := ?_) rfl (by kernel_rfl) (by kernel_rfl) (by kernel_rfl) (fun _ _ _ h => h) (Or.inl ⟨rfl, ?hy2⟩) R7 ?_
  case hy2 => intro w' hw'; clear hw'; go_simp; first | done | rfl
  try simp only [Act.put, List.getElem_toArray, List.getElem_cons_zero, List.getElem_cons_succ, List.setIfInBounds_toArray, List.set_cons_zero, List.set_cons_succ]
  refine wpAnyH_take (i := 3) (v := ?_) rfl (by kernel_rfl) (by kernel_rfl) (by kernel_rfl) (fun _ _ _ h => h) (Or.inl ⟨rfl, ?hy3⟩) R7 ?_
  case hy3 => intro w' hw'; clear hw'; go_simp; first | done | rfl
  try simp only [Act.put, List.getElem_toArray, List.getElem_cons_zero, List.getElem_cons_succ, List.setIfInBounds_toArray, List.set_cons_zero, List.set_cons_succ]
  refine wpAnyH_take (i := 4) (v := ?_) rfl (by kernel_rfl) (by kernel_rfl) (by kernel_rfl) (fun _ _ _ h => h) (Or.inl ⟨rfl, ?hy4⟩) R7 ?_
  case hy4 => intro w' hw'; clear hw'; go_simp; first | done | rfl
  try simp only [Act.put, List.getElem_toArray, List.getElem_cons_zero, List.getElem_cons_succ, List.setIfInBounds_toArray, List.set_cons_zero, List.set_cons_succ]
  refine wpAnyH_take (i := 5) (v := ?_) rfl (by kernel_rfl) (by kernel_rfl) (by kernel_rfl) (fun _ _ _ h => h) (Or.inl ⟨rfl, ?hy5⟩) R7 ?_
  case hy5 => intro w' hw'; clear hw'; go_simp; first | done | rfl
  try simp only [Act.put, List.getElem_toArray, List.getElem_cons_zero, List.getElem_cons_succ, List.setIfInBounds_toArray, List.set_cons_zero, List.set_cons_succ]
  refine wpAnyH_take (i := 6) (v := ?_) rfl (by kernel_rfl) (by kernel_rfl) (by kernel_rfl) (fun _ _ _ h => h) (Or.inl ⟨rfl, ?hy6⟩) R7 ?_
  case hy6 => intro w' hw'; clear hw'; go_simp; first | done | rfl
  try simp only [Act.put, List.getElem_toArray, List.getElem_cons_zero, List.getElem_cons_succ, List.setIfInBounds_toArray, List.set_cons_zero, List.set_cons_succ]
  refine wpAnyH_take (i := 7) (v := ?_) rfl (by kernel_rfl) (by kernel_rfl) (by kernel_rfl) (fun _ _ _ h => h) (Or.inl ⟨rfl, ?hy7⟩) R7 ?_
  case hy7 => intro w' hw'; clear hw'; go_simp; first | done | rfl
  try simp only [Act.put, List.getElem_toArray, List.getElem_cons_zero, List.getElem_cons_succ, List.setIfInBounds_toArray, List.set_cons_zero, List.set_cons_succ]
  refine wpAnyH_take (i := 8) (v := ?_) rfl (by kernel_rfl) (by kernel_rfl) (by kernel_rfl) (fun _ _ _ h => h) (Or.inl ⟨rfl, ?hy8⟩) R7 ?_
  case hy8 => intro w' hw'; clear hw'; go_simp; first | done | rfl
  try simp only [Act.put, List.getElem_toArray, List.getElem_cons_zero, List.getElem_cons_succ, List.setIfInBounds_toArray, List.set_cons_zero, List.set_cons_succ]
  refine wpAnyH_ready (rs := [9]) (by kernel_rfl) (by simp) ?_
  refine AllReadyH.cons rfl (fun K hK => ?_) AllReadyH.nil
  have hbk : Below V6.heap.size V6 (V6.alloc (.cells #[.string F0, .string (S34.extract 0 512), .string (S34.extract 512 1024), .string (S34.extract 0 512), .string (S34.extract 512 1024)] 9)).drew := R7.trans ((below1 V6.drew _).mono R7.size)
  go_simp
  refine hK.out _ _ hbk (fun _ => ?_)
  clear hK K
  try simp only [Act.put, List.getElem_toArray, List.getElem_cons_zero, List.getElem_cons_succ, List.setIfInBounds_toArray, List.set_cons_zero, List.set_cons_succ]
  refine wpAnyH_take (i := 10) (v := ?_) rfl (by kernel_rfl) (by kernel_rfl) (by kernel_rfl) (fun _ _ _ h => h) (Or.inl ⟨rfl, ?hy10⟩) hbk ?_
  case hy10 => intro w' hw'; clear hw'; go_simp; first | done | rfl
  try simp only [Act.put, List.getElem_toArray, List.getElem_cons_zero, List.getElem_cons_succ, List.setIfInBounds_toArray, List.set_cons_zero, List.set_cons_succ]
  refine wpAnyH_done (by kernel_rfl) ?_ _
  have HRW : Hid (∀ i, i < 5 → ∃ l, (#[.string F0, .string (S34.extract 0 512), .string (S34.extract 512 1024), .string (S34.extract 0 512), .string (S34.extract 512 1024)] : Array Value)[i]? = some (.string (strB l)) ∧ (∀ x ∈ l, x < 256) ∧ l.length ≤ 1024) := fun i hi => by
    obtain ⟨l, h1, h2, h3⟩ := HF.out
    rcases (by omega : i = 0 ∨ i = 1 ∨ i = 2 ∨ i = 3 ∨ i = 4) with rfl | rfl | rfl | rfl | rfl
    · exact ⟨l, by rw [h1]; rfl, h2, h3⟩
    · exact ⟨_, by rw [← HT1.out, HRA.out.1]; rfl, HRA.out.2⟩
    · exact ⟨_, by rw [← HT2.out, HRB.out.1]; rfl, HRB.out.2⟩
    · exact ⟨_, by rw [← HT1.out, HRA.out.1]; rfl, HRA.out.2⟩
    · exact ⟨_, by rw [← HT2.out, HRB.out.1]; rfl, HRB.out.2⟩
  have n7 : Has (V6.alloc (.cells #[.string F0, .string (S34.extract 0 512), .string (S34.extract 512 1024), .string (S34.extract 0 512), .string (S34.extract 512 1024)] 9)).drew V6.heap.size (.cells #[.string F0, .string (S34.extract 0 512), .string (S34.extract 512 1024), .string (S34.extract 0 512), .string (S34.extract 512 1024)] 9) := Has.new V6 _
  have z7 : (V6.alloc (.cells #[.string F0, .string (S34.extract 0 512), .string (S34.extract 512 1024), .string (S34.extract 0 512), .string (S34.extract 512 1024)] 9)).drew.heap.size = V6.heap.size + 1 := by show (V6.alloc _).heap.size = _; simp
  obtain ⟨V7, hV7⟩ : ∃ V, V = (V6.alloc (.cells #[.string F0, .string (S34.extract 0 512), .string (S34.extract 512 1024), .string (S34.extract 0 512), .string (S34.extract 512 1024)] 9)).drew := ⟨_, rfl⟩
  rw [← hV7] at hbk n7 z7 ⊢
  obtain ⟨CS, hCS⟩ : ∃ C, C = (#[.string F0, .string (S34.extract 0 512), .string (S34.extract 512 1024), .string (S34.extract 0 512), .string (S34.extract 512 1024)] : Array Value) := ⟨_, rfl⟩
  rw [← hCS] at HRW n7
  obtain ⟨AB, hAB⟩ : ∃ A, A = V6.heap.size := ⟨_, rfl⟩
  obtain ⟨E7, q0, q1, q2⟩ := P6.out.new2 hbk
  have P7 := Lib.hid q0
  have T7 := Lib.hid (T6.out.later hbk)
  have HE7 := Lib.hid (q1 _ HE6.out)
  have HA7 := Lib.hid (q2 AB (by omega) (by omega))
  have HGA : Hid (¬ G0 AB) := fun h => by have := P6.out.ly.lt _ (P6.out.sub _ h); omega
  have N7 := Lib.hid (show Has V7 AB (.cells CS 9) by rw [hAB]; exact n7)
  have HAW := Lib.hid (show w.heap.size ≤ AB by have := P6.out.below.size; omega)
  have HNE := Lib.hid (show B7 ≠ AB by have := P6.out.ly.lt _ HE6.out; omega)
  rw [← hAB]
  clear q0 q1 q2 hbk n7 z7 hV7 hCS hAB P6 T6 HE6 R7 HF HRA HRB HT1 HT2 HS34
  go_wp2_with fail
  go_loopw [18] (fun s18 wr => ∃ (i : Nat) (d : Ek.Dk) (xa : Option Addr) (xn xc : Nat) (xl : Option Addr) (xm xk : Nat) (xf : Int) (xd : Bool) (E G : Nat → Prop), s18 = .int .i64 (i : Int) ∧ i ≤ 5 ∧ Hid (Bo w wr b d (.agg #[.slice xa xn xc, .slice xl xm xk, .int .i64 xf, .bool xd]) d E G (fun _ => False) w) ∧ Hid (Has wr B7 (.cells #[.slice xa xn xc, .slice xl xm xk, .int .i64 xf, .bool xd] 40)) ∧ Hid (E B7 ∧ ¬ G B7) ∧ Hid (d.used ≤ i) ∧ Hid (Has wr AB (.cells CS 9)) ∧ Hid (E AB ∧ ¬ G AB)) (fun s18 _ => 5 - (intOf s18).toNat)
  case atStart => exact ⟨0, d0, xa, xn, xc, xl, xm, xk, xf, xd, _, _, by go_num, by omega, P7, T7, ⟨HE7.out, HG3.out⟩, HU3, N7, ⟨HA7.out, HGA.out⟩⟩
  clear P7 T7 HE7 HG3 HU3 N7 HA7 HGA
  case round =>
    obtain ⟨i, d, xa, xn, xc, xl, xm, xk, xf, xd, E, G, rfl, hi, KP, KT, KE, KU, KN, KA⟩ := hrel
    by_cases hlt : i < 5
    · have j0 : decide ((i : Int) < 5) = true := decide_eq_true (by omega)
      have j1 : (0 : Int) ≤ (i : Int) := by omega
      have j2 : (i : Int) < 5 := by omega
      obtain ⟨l, hcs, hl8, hll⟩ := HRW.out i hlt
      obtain ⟨S, hS⟩ : ∃ S, S = strB l := ⟨_, rfl⟩
      rw [← hS] at hcs
      have D0 := below_drewN (Below.refl wr.heap.size wr) 1
      have P0 := Lib.hid (show Bo w wr.drew b d _ d E G _ _ from KP.out.later D0)
      have i0 : Has wr.drew B7 (.cells #[.slice xa xn xc, .slice xl xm xk, .int .i64 xf, .bool xd] 40) ∧ Has wr.drew AB (.cells CS 9) ∧ Below w.heap.size w wr.drew := ⟨KT.out.later D0, KN.out.later D0, P0.out.below⟩
      have hu : Hid (d.used ≤ 900) := by have := KU.out; show _ ≤ _; omega
      have HLT := Lib.hid hlt
      have HS := Lib.hid hS
      have HL8 := Lib.hid hl8
      have HLL := Lib.hid hll
      have HCS : Hid (∀ W, Has W AB (.cells CS 9) → W.cell? ⟨AB, i, none⟩ = some (.string S)) := fun W hW => (hW.cell i).trans hcs
      clear D0 KP KT KN hcs hS hl8 hll hlt
      go_wp2_with fail
      refine wp_region_held_drew (S := fun wx => Has wx B7 (.cells #[.slice xa xn xc, .slice xl xm xk, .int .i64 xf, .bool xd] 40) ∧ Has wx AB (.cells CS 9) ∧ Below w.heap.size w wx) (by kernel_rfl) i0 (fun _ => ?_)
      change wpAnyH _ _ _ _ _ 13 (Array.replicate 13 false) _ _
      refine wpAnyH_take (i := 0) (v := .agg #[.slice xa xn xc, .slice xl xm xk, .int .i64 xf, .bool xd]) rfl (by kernel_rfl) (by kernel_rfl) (by kernel_rfl) (fun _ _ _ h => h) (Or.inl ⟨rfl, ?hy0⟩) i0 ?_
      case hy0 =>
        intro w' hw'
        exact exec_row (.tmp 13) rfl B7 rfl 40 _ (0, 0) _ hw'.1 Try.underlying40 rfl Try.infoDisk4
      try simp only [Act.put, List.getElem_toArray, List.getElem_cons_zero, List.setIfInBounds_toArray, List.set_cons_zero, List.set_cons_succ]
      refine wpAnyH_take (i := 1) (v := ?_) rfl (by kernel_rfl) (by kernel_rfl) (by kernel_rfl) (fun _ _ _ h => h) (Or.inl ⟨rfl, ?hy1⟩) i0 ?_
      case hy1 => intro w' hw'; clear hw'; go_simp; first | done | rfl
      try simp only [Act.put, List.getElem_toArray, List.getElem_cons_zero, List.getElem_cons_succ, List.setIfInBounds_toArray, List.set_cons_zero, List.set_cons_succ]
      refine wpAnyH_take (i := 2) (v := ?_) rfl (by kernel_rfl) (by kernel_rfl) (by kernel_rfl) (fun _ _ _ h => h) (Or.inl ⟨rfl, ?hy2⟩) i0 ?_
      case hy2 => intro w' hw'; clear hw'; go_simp; first | done | rfl
      try simp only [Act.put, List.getElem_toArray, List.getElem_cons_zero, List.getElem_cons_succ, List.setIfInBounds_toArray, List.set_cons_zero, List.set_cons_succ]
      refine wpAnyH_take (i := 3) (v := ?_) rfl (by kernel_rfl) (by kernel_rfl) (by kernel_rfl) (fun _ _ _ h => h) (Or.inl ⟨rfl, ?hy3⟩) i0 ?_
      case hy3 => intro w' hw'; clear hw'; go_simp; first | done | rfl
      try simp only [Act.put, List.getElem_toArray, List.getElem_cons_zero, List.getElem_cons_succ, List.setIfInBounds_toArray, List.set_cons_zero, List.set_cons_succ]
      refine wpAnyH_take (i := 4) (v := ?_) rfl (by kernel_rfl) (by kernel_rfl) (by kernel_rfl) (fun _ _ _ h => h) (Or.inl ⟨rfl, ?hy4⟩) i0 ?_
      case hy4 => intro w' hw'; clear hw'; go_simp; first | done | rfl
      try simp only [Act.put, List.getElem_toArray, List.getElem_cons_zero, List.getElem_cons_succ, List.setIfInBounds_toArray, List.set_cons_zero, List.set_cons_succ]
      refine wpAnyH_take (i := 5) (v := ?_) rfl (by kernel_rfl) (by kernel_rfl) (by kernel_rfl) (fun _ _ _ h => h) (Or.inl ⟨rfl, ?hy5⟩) i0 ?_
      case hy5 => intro w' hw'; have f0 := HCS.out w' hw'.2.1; clear hw'; go_simp; first | done | rfl
      try simp only [Act.put, List.getElem_toArray, List.getElem_cons_zero, List.getElem_cons_succ, List.setIfInBounds_toArray, List.set_cons_zero, List.set_cons_succ]
      have CW := Lib.hid (fun W m (hP : DDk W G (.agg #[.slice xa xn xc, .slice xl xm xk, .int .i64 xf, .bool xd]) m) (hm : m.used < 1000000) => rdisk_write_any W G _ m hP (i : Int) l HL8.out hm)
      rw [← HS.out] at CW
      refine wpAnyH_ready (rs := [6, 10]) (by kernel_rfl) (by simp) ?_
      refine AllReadyH.cons rfl (fun K hK => ?_) (AllReadyH.cons rfl (fun K hK => ?_) AllReadyH.nil)
      · go_simp
        refine (CW.out _ _ P0.out.doc (by have := hu.out; omega)).mono ?_
        rintro e w2 ⟨⟨v2, rfl, hd2⟩, hb2⟩
        obtain ⟨ya, yn, yc, yl, ym, yk, yf, yd, rfl⟩ := hd2.four
        obtain ⟨E2, G2, q0, q1, q2, q3⟩ := P0.out.ref2 hb2 hd2
        have i2 : Has w2 B7 (.cells #[.slice xa xn xc, .slice xl xm xk, .int .i64 xf, .bool xd] 40) ∧ Has w2 AB (.cells CS 9) ∧ Below w.heap.size w w2 := ⟨i0.1.later hb2, i0.2.1.later hb2, q0.below⟩
        have b3 := below1 w2 (.cells #[.slice none 0 0, .slice none 0 0, .int .i64 0, .bool false] 40)
        have i3 : Has (w2.alloc (.cells #[.slice none 0 0, .slice none 0 0, .int .i64 0, .bool false] 40)) B7 (.cells #[.slice xa xn xc, .slice xl xm xk, .int .i64 xf, .bool xd] 40) ∧ Has (w2.alloc (.cells #[.slice none 0 0, .slice none 0 0, .int .i64 0, .bool false] 40)) AB (.cells CS 9) ∧ Below w.heap.size w (w2.alloc (.cells #[.slice none 0 0, .slice none 0 0, .int .i64 0, .bool false] 40)) := ⟨i2.1.later b3, i2.2.1.later b3, i2.2.2.trans (b3.mono i2.2.2.size)⟩
        have hw2 := q0.below.size
        have hB7l : B7 < wr.drew.heap.size := P0.out.ly.lt B7 KE.out.1
        have hABl : AB < wr.drew.heap.size := P0.out.ly.lt AB KA.out.1
        have hbz := hb2.size
        have n3 : Has (w2.alloc (.cells #[.slice none 0 0, .slice none 0 0, .int .i64 0, .bool false] 40)) w2.heap.size (.cells #[.slice none 0 0, .slice none 0 0, .int .i64 0, .bool false] 40) := Has.new w2 _
        have i5 : Has ((w2.alloc (.cells #[.slice none 0 0, .slice none 0 0, .int .i64 0, .bool false] 40)).setRow w2.heap.size #[.slice ya yn yc, .slice yl ym yk, .int .i64 yf, .bool yd]) B7 (.cells #[.slice xa xn xc, .slice xl xm xk, .int .i64 xf, .bool xd] 40) ∧ Has ((w2.alloc (.cells #[.slice none 0 0, .slice none 0 0, .int .i64 0, .bool false] 40)).setRow w2.heap.size #[.slice ya yn yc, .slice yl ym yk, .int .i64 yf, .bool yd]) AB (.cells CS 9) ∧ Below w.heap.size w ((w2.alloc (.cells #[.slice none 0 0, .slice none 0 0, .int .i64 0, .bool false] 40)).setRow w2.heap.size #[.slice ya yn yc, .slice yl ym yk, .int .i64 yf, .bool yd]) := ⟨has_row i3.1 (by omega) _, has_row i3.2.1 (by omega) _, below_setRow i3.2.2 (by omega) _⟩
        obtain ⟨E3, O3, p1, p2⟩ := q0.new2 b3
        have hz3 : (w2.alloc (.cells #[.slice none 0 0, .slice none 0 0, .int .i64 0, .bool false] 40)).heap.size = w2.heap.size + 1 := by simp
        have P5 := Lib.hid (O3.tch w2.heap.size (p2 _ (Nat.le_refl _) (by omega)) (fun h => by have := q0.ly.lt _ (q0.sub _ h); omega) (by omega) (tch_row (w2.alloc (.cells #[.slice none 0 0, .slice none 0 0, .int .i64 0, .bool false] 40)) w2.heap.size #[.slice ya yn yc, .slice yl ym yk, .int .i64 yf, .bool yd]))
        have T5 := Lib.hid (show Has ((w2.alloc (.cells #[.slice none 0 0, .slice none 0 0, .int .i64 0, .bool false] 40)).setRow w2.heap.size #[.slice ya yn yc, .slice yl ym yk, .int .i64 yf, .bool yd]) w2.heap.size (.cells #[.slice ya yn yc, .slice yl ym yk, .int .i64 yf, .bool yd] 40) from setRow_heap _ _ _ _ _ _ n3)
        have Z5 := Lib.hid i5.1
        have N5 := Lib.hid i5.2.1
        have HE5 : Hid (E3 B7 ∧ ¬ G2 B7) := ⟨p1 _ (q1 _ KE.out.1), fun h => KE.out.2 (q2 _ hB7l h)⟩
        have HA5 : Hid (E3 AB ∧ ¬ G2 AB) := ⟨p1 _ (q1 _ KA.out.1), fun h => KA.out.2 (q2 _ hABl h)⟩
        clear b3 hw2 O3 hB7l hABl hz3 q0 q1 q2 q3 p1 p2 hd2 hb2 hbz
        dsimp only
        refine hK.out _ _ i2 (fun _ => ?_)
        clear hK K CW
        try simp only [Act.put, List.getElem_toArray, List.getElem_cons_zero, List.getElem_cons_succ, List.setIfInBounds_toArray, List.set_cons_zero, List.set_cons_succ]
        refine wpAnyH_take (i := 7) (v := ?_) rfl (by kernel_rfl) (by kernel_rfl) (by kernel_rfl) (fun _ _ _ h => h) (Or.inl ⟨rfl, ?hy7⟩) i2 ?_
        case hy7 => intro w' hw'; clear hw'; go_simp; first | done | rfl
        try simp only [Act.put, List.getElem_toArray, List.getElem_cons_zero, List.getElem_cons_succ, List.setIfInBounds_toArray, List.set_cons_zero, List.set_cons_succ]
        refine wpAnyH_take (i := 8) (v := ?_) rfl (by kernel_rfl) (by kernel_rfl) (by kernel_rfl) (fun _ _ _ h => h) (Or.inl ⟨rfl, ?hy8⟩) i2 ?_
        case hy8 => intro w' hw'; clear hw'; go_simp; first | done | rfl
        try simp only [Act.put, List.getElem_toArray, List.getElem_cons_zero, List.getElem_cons_succ, List.setIfInBounds_toArray, List.set_cons_zero, List.set_cons_succ]
        refine wpAnyH_take (i := 9) (v := ?_) rfl (by kernel_rfl) (by kernel_rfl) (by kernel_rfl) (fun _ _ _ h => h) (Or.inl ⟨rfl, ?hy9⟩) i2 ?_
        case hy9 => intro w' hw'; clear hw'; go_simp; first | done | rfl
        try simp only [Act.put, List.getElem_toArray, List.getElem_cons_zero, List.getElem_cons_succ, List.setIfInBounds_toArray, List.set_cons_zero, List.set_cons_succ]
        refine wpAnyH_ready (rs := [10]) (by kernel_rfl) (by simp) ?_
        refine AllReadyH.cons rfl (fun K hK => ?_) AllReadyH.nil
        go_simp
        refine hK.out _ _ i3 (fun _ => ?_)
        clear hK K
        try simp only [Act.put, List.getElem_toArray, List.getElem_cons_zero, List.getElem_cons_succ, List.setIfInBounds_toArray, List.set_cons_zero, List.set_cons_succ]
        refine wpAnyH_ready (rs := [11]) (by kernel_rfl) (by simp) ?_
        refine AllReadyH.cons rfl (fun K hK => ?_) AllReadyH.nil
        rw [if_pos (by rfl)]
        refine wp_store_row 40 _ _ rfl w2.heap.size #[.slice ya yn yc, .slice yl ym yk, .int .i64 yf, .bool yd] rfl rfl 40 _ n3 Try.infoDisk4 rfl (by simp [Value.oneCell']) ?_
        refine hK.out _ _ i5 (fun _ => ?_)
        clear hK K
        try simp only [Act.put, List.getElem_toArray, List.getElem_cons_zero, List.getElem_cons_succ]
        refine wpAnyH_take (i := 12) (v := ?_) rfl (by kernel_rfl) (by kernel_rfl) (by kernel_rfl) (fun _ _ _ h => h) (Or.inl ⟨rfl, ?hy12⟩) i5 ?_
        case hy12 => intro w' hw'; clear hw'; go_simp; first | done | rfl
        try simp only [Act.put, List.getElem_toArray, List.getElem_cons_zero, List.getElem_cons_succ, List.setIfInBounds_toArray, List.set_cons_zero, List.set_cons_succ]
        obtain ⟨w5, hw5⟩ : ∃ W, W = (w2.alloc (.cells #[.slice none 0 0, .slice none 0 0, .int .i64 0, .bool false] 40)).setRow w2.heap.size #[.slice ya yn yc, .slice yl ym yk, .int .i64 yf, .bool yd] := ⟨_, rfl⟩
        obtain ⟨X5, hX5⟩ : ∃ X, X = w2.heap.size := ⟨_, rfl⟩
        rw [← hw5] at P5 T5 Z5 N5 ⊢
        rw [← hX5] at T5 ⊢
        clear hw5 hX5 i0 i2 i3 i5 n3
        refine wpAnyH_done (by kernel_rfl) ?_ _
        have P8 := Lib.hid (P5.out.tch B7 HE5.out.1 HE5.out.2 HW2.out (tch_row w5 B7 #[.slice ya yn yc, .slice yl ym yk, .int .i64 yf, .bool yd]))
        have T8 := Lib.hid (show Has (w5.setRow B7 #[.slice ya yn yc, .slice yl ym yk, .int .i64 yf, .bool yd]) B7 (.cells #[.slice ya yn yc, .slice yl ym yk, .int .i64 yf, .bool yd] 40) from setRow_heap _ _ _ _ _ _ Z5.out)
        have N8 := Lib.hid (show Has (w5.setRow B7 #[.slice ya yn yc, .slice yl ym yk, .int .i64 yf, .bool yd]) AB (.cells CS 9) from has_row N5.out HNE.out _)
        have f0 := HCS.out _ N8.out
        obtain ⟨cp, w9, hcv, hsl, hb9, -⟩ := conv_bytes l HL8.out (by have := HLL.out; omega) S HS.out (w5.setRow B7 #[.slice ya yn yc, .slice yl ym yk, .int .i64 yf, .bool yd])
        have hz9 : (w5.setRow B7 #[.slice ya yn yc, .slice yl ym yk, .int .i64 yf, .bool yd]).heap.size = w5.heap.size := by simp
        rw [hz9] at hcv hsl
        have CP := Lib.hid (ly_write P8.out.ly hb9 (i : Int) (.slice (some ⟨w5.heap.size, 0, none⟩) l.length cp) l hsl (fun g off spot len cap e => by injection e with e1 _ _; injection e1 with e1; injection e1 with e1 _ _; subst e1; exact Or.inr (Nat.le_of_eq hz9)) (by have := hu.out; omega))
        have P9 := Lib.hid (P8.out.later hb9)
        have T9 := Lib.hid (T8.out.later hb9)
        have N9 := Lib.hid (N8.out.later hb9)
        have HUW : Hid ((Ek.write d (i : Int) l).used ≤ i + 1) := Nat.le_trans (Ek.write_used2 d i l) (by have := KU.out; omega)
        clear P8 T8 N8 hsl hb9 KU hz9
        generalize Ek.write d (i : Int) l = d9 at CP P9 HUW
        generalize Ek.writeE d (i : Int) l = ee at CP
        generalize l.length = ll at hcv CP
        go_wp2_with (first | (refine wpList_load_row rfl 40 (.tmp 19) rfl X5 rfl 40 _ (0, 0) _ T5.out Try.underlying40 rfl Try.infoDisk4 ?_) | (refine wpList_store_row rfl 40 (.tmp 13) (.tmp 96) rfl B7 #[.slice ya yn yc, .slice yl ym yk, .int .i64 yf, .bool yd] rfl rfl 40 _ Z5.out Try.infoDisk4 rfl (by simp [Value.oneCell']) ?_))
        refine CP.out.mono ?_
        clear CP hcv f0
        rintro e w10 hp
        have hkeep := hp.2.2
        obtain ⟨rfl, O10⟩ := P9.out.prog hp
        have P10 := Lib.hid O10
        have T10 := Lib.hid (show Has w10 B7 (.cells #[.slice ya yn yc, .slice yl ym yk, .int .i64 yf, .bool yd] 40) from (hkeep _ HE5.out.1).trans T9.out)
        have N10 := Lib.hid (show Has w10 AB (.cells CS 9) from (hkeep _ HA5.out.1).trans N9.out)
        clear hp hkeep O10 P9 T9 N9 P5 T5 Z5 N5
        have hlt := HLT.out
        go_wp2_with fail
        go_round
        case rel => exact ⟨i + 1, d9, ya, yn, yc, yl, ym, yk, yf, yd, _, _, by go_num, by omega, P10, T10, HE5, HUW, N10, HA5⟩
        case measure => simp [intOf]; omega
      · have hB7l : B7 < wr.drew.heap.size := P0.out.ly.lt B7 KE.out.1
        have hABl : AB < wr.drew.heap.size := P0.out.ly.lt AB KA.out.1
        have hdz : wr.drew.heap.size = wr.heap.size := rfl
        have bB : Below wr.drew.heap.size wr.drew (wr.alloc (.cells #[.slice none 0 0, .slice none 0 0, .int .i64 0, .bool false] 40)).drew := below1 wr.drew (.cells #[.slice none 0 0, .slice none 0 0, .int .i64 0, .bool false] 40)
        have hzB : (wr.alloc (.cells #[.slice none 0 0, .slice none 0 0, .int .i64 0, .bool false] 40)).drew.heap.size = wr.heap.size + 1 := by show (wr.alloc _).heap.size = _; simp
        have iB : Has (wr.alloc (.cells #[.slice none 0 0, .slice none 0 0, .int .i64 0, .bool false] 40)).drew B7 (.cells #[.slice xa xn xc, .slice xl xm xk, .int .i64 xf, .bool xd] 40) ∧ Has (wr.alloc (.cells #[.slice none 0 0, .slice none 0 0, .int .i64 0, .bool false] 40)).drew AB (.cells CS 9) ∧ Below w.heap.size w (wr.alloc (.cells #[.slice none 0 0, .slice none 0 0, .int .i64 0, .bool false] 40)).drew := ⟨i0.1.later bB, i0.2.1.later bB, i0.2.2.trans (bB.mono i0.2.2.size)⟩
        obtain ⟨EB, PB, p1, p2⟩ := P0.out.new2 bB
        have nB : Has (wr.alloc (.cells #[.slice none 0 0, .slice none 0 0, .int .i64 0, .bool false] 40)).drew wr.heap.size (.cells #[.slice none 0 0, .slice none 0 0, .int .i64 0, .bool false] 40) := Has.new wr _
        have hEX := p2 wr.heap.size (by omega) (by omega)
        have hGX : ¬ G wr.heap.size := fun h => by have := P0.out.ly.lt _ (P0.out.sub _ h); omega
        have CW' := Lib.hid (CW.out _ _ PB.doc (by have := hu.out; omega))
        have HRZ := Lib.hid (show w.heap.size ≤ wr.heap.size from i0.2.2.size)
        go_simp
        refine hK.out _ _ iB (fun _ => ?_)
        clear hK K CW
        try simp only [Act.put, List.getElem_toArray, List.getElem_cons_zero, List.getElem_cons_succ, List.setIfInBounds_toArray, List.set_cons_zero, List.set_cons_succ]
        refine wpAnyH_ready (rs := [6]) (by kernel_rfl) (by simp) ?_
        refine AllReadyH.cons rfl (fun K hK => ?_) AllReadyH.nil
        go_simp
        refine CW'.out.mono ?_
        clear CW'
        rintro e w2 ⟨⟨v2, rfl, hd2⟩, hb2⟩
        obtain ⟨ya, yn, yc, yl, ym, yk, yf, yd, rfl⟩ := hd2.four
        obtain ⟨E2, G2, q0, q1, q2, q3⟩ := PB.ref2 hb2 hd2
        have i2 : Has w2 B7 (.cells #[.slice xa xn xc, .slice xl xm xk, .int .i64 xf, .bool xd] 40) ∧ Has w2 AB (.cells CS 9) ∧ Below w.heap.size w w2 := ⟨iB.1.later hb2, iB.2.1.later hb2, q0.below⟩
        have n2 : Has w2 wr.heap.size (.cells #[.slice none 0 0, .slice none 0 0, .int .i64 0, .bool false] 40) := nB.later hb2
        have i5 : Has (w2.setRow wr.heap.size #[.slice ya yn yc, .slice yl ym yk, .int .i64 yf, .bool yd]) B7 (.cells #[.slice xa xn xc, .slice xl xm xk, .int .i64 xf, .bool xd] 40) ∧ Has (w2.setRow wr.heap.size #[.slice ya yn yc, .slice yl ym yk, .int .i64 yf, .bool yd]) AB (.cells CS 9) ∧ Below w.heap.size w (w2.setRow wr.heap.size #[.slice ya yn yc, .slice yl ym yk, .int .i64 yf, .bool yd]) := ⟨has_row i2.1 (by omega) _, has_row i2.2.1 (by omega) _, below_setRow i2.2.2 HRZ.out _⟩
        have P5 := Lib.hid (q0.tch wr.heap.size (q1 _ hEX) (fun h => hGX (q2 _ (by omega) h)) HRZ.out (tch_row w2 wr.heap.size #[.slice ya yn yc, .slice yl ym yk, .int .i64 yf, .bool yd]))
        have T5 := Lib.hid (show Has (w2.setRow wr.heap.size #[.slice ya yn yc, .slice yl ym yk, .int .i64 yf, .bool yd]) wr.heap.size (.cells #[.slice ya yn yc, .slice yl ym yk, .int .i64 yf, .bool yd] 40) from setRow_heap _ _ _ _ _ _ n2)
        have Z5 := Lib.hid i5.1
        have N5 := Lib.hid i5.2.1
        have HE5 : Hid (E2 B7 ∧ ¬ G2 B7) := ⟨q1 _ (p1 _ KE.out.1), fun h => KE.out.2 (q2 _ (by omega) h)⟩
        have HA5 : Hid (E2 AB ∧ ¬ G2 AB) := ⟨q1 _ (p1 _ KA.out.1), fun h => KA.out.2 (q2 _ (by omega) h)⟩
        clear hB7l hABl hdz bB hzB PB p1 p2 hEX hGX q0 q1 q2 q3 hd2 hb2
        dsimp only
        refine hK.out _ _ i2 (fun _ => ?_)
        clear hK K
        try simp only [Act.put, List.getElem_toArray, List.getElem_cons_zero, List.getElem_cons_succ, List.setIfInBounds_toArray, List.set_cons_zero, List.set_cons_succ]
        refine wpAnyH_take (i := 7) (v := ?_) rfl (by kernel_rfl) (by kernel_rfl) (by kernel_rfl) (fun _ _ _ h => h) (Or.inl ⟨rfl, ?hy7⟩) i2 ?_
        case hy7 => intro w' hw'; clear hw'; go_simp; first | done | rfl
        try simp only [Act.put, List.getElem_toArray, List.getElem_cons_zero, List.getElem_cons_succ, List.setIfInBounds_toArray, List.set_cons_zero, List.set_cons_succ]
        refine wpAnyH_take (i := 8) (v := ?_) rfl (by kernel_rfl) (by kernel_rfl) (by kernel_rfl) (fun _ _ _ h => h) (Or.inl ⟨rfl, ?hy8⟩) i2 ?_
        case hy8 => intro w' hw'; clear hw'; go_simp; first | done | rfl
        try simp only [Act.put, List.getElem_toArray, List.getElem_cons_zero, List.getElem_cons_succ, List.setIfInBounds_toArray, List.set_cons_zero, List.set_cons_succ]
        refine wpAnyH_take (i := 9) (v := ?_) rfl (by kernel_rfl) (by kernel_rfl) (by kernel_rfl) (fun _ _ _ h => h) (Or.inl ⟨rfl, ?hy9⟩) i2 ?_
        case hy9 => intro w' hw'; clear hw'; go_simp; first | done | rfl
        try simp only [Act.put, List.getElem_toArray, List.getElem_cons_zero, List.getElem_cons_succ, List.setIfInBounds_toArray, List.set_cons_zero, List.set_cons_succ]
        refine wpAnyH_ready (rs := [11]) (by kernel_rfl) (by simp) ?_
        refine AllReadyH.cons rfl (fun K hK => ?_) AllReadyH.nil
        rw [if_pos (by rfl)]
        refine wp_store_row 40 _ _ rfl wr.heap.size #[.slice ya yn yc, .slice yl ym yk, .int .i64 yf, .bool yd] rfl rfl 40 _ n2 Try.infoDisk4 rfl (by simp [Value.oneCell']) ?_
        refine hK.out _ _ i5 (fun _ => ?_)
        clear hK K
        try simp only [Act.put, List.getElem_toArray, List.getElem_cons_zero, List.getElem_cons_succ]
        refine wpAnyH_take (i := 12) (v := ?_) rfl (by kernel_rfl) (by kernel_rfl) (by kernel_rfl) (fun _ _ _ h => h) (Or.inl ⟨rfl, ?hy12⟩) i5 ?_
        case hy12 => intro w' hw'; clear hw'; go_simp; first | done | rfl
        try simp only [Act.put, List.getElem_toArray, List.getElem_cons_zero, List.getElem_cons_succ, List.setIfInBounds_toArray, List.set_cons_zero, List.set_cons_succ]
        obtain ⟨w5, hw5⟩ : ∃ W, W = w2.setRow wr.heap.size #[.slice ya yn yc, .slice yl ym yk, .int .i64 yf, .bool yd] := ⟨_, rfl⟩
        obtain ⟨X5, hX5⟩ : ∃ X, X = wr.heap.size := ⟨_, rfl⟩
        rw [← hw5] at P5 T5 Z5 N5 ⊢
        rw [← hX5] at T5 ⊢
        clear hw5 hX5 i0 i2 i5 n2 nB iB
        refine wpAnyH_done (by kernel_rfl) ?_ _
        have P8 := Lib.hid (P5.out.tch B7 HE5.out.1 HE5.out.2 HW2.out (tch_row w5 B7 #[.slice ya yn yc, .slice yl ym yk, .int .i64 yf, .bool yd]))
        have T8 := Lib.hid (show Has (w5.setRow B7 #[.slice ya yn yc, .slice yl ym yk, .int .i64 yf, .bool yd]) B7 (.cells #[.slice ya yn yc, .slice yl ym yk, .int .i64 yf, .bool yd] 40) from setRow_heap _ _ _ _ _ _ Z5.out)
        have N8 := Lib.hid (show Has (w5.setRow B7 #[.slice ya yn yc, .slice yl ym yk, .int .i64 yf, .bool yd]) AB (.cells CS 9) from has_row N5.out HNE.out _)
        have f0 := HCS.out _ N8.out
        obtain ⟨cp, w9, hcv, hsl, hb9, -⟩ := conv_bytes l HL8.out (by have := HLL.out; omega) S HS.out (w5.setRow B7 #[.slice ya yn yc, .slice yl ym yk, .int .i64 yf, .bool yd])
        have hz9 : (w5.setRow B7 #[.slice ya yn yc, .slice yl ym yk, .int .i64 yf, .bool yd]).heap.size = w5.heap.size := by simp
        rw [hz9] at hcv hsl
        have CP := Lib.hid (ly_write P8.out.ly hb9 (i : Int) (.slice (some ⟨w5.heap.size, 0, none⟩) l.length cp) l hsl (fun g off spot len cap e => by injection e with e1 _ _; injection e1 with e1; injection e1 with e1 _ _; subst e1; exact Or.inr (Nat.le_of_eq hz9)) (by have := hu.out; omega))
        have P9 := Lib.hid (P8.out.later hb9)
        have T9 := Lib.hid (T8.out.later hb9)
        have N9 := Lib.hid (N8.out.later hb9)
        have HUW : Hid ((Ek.write d (i : Int) l).used ≤ i + 1) := Nat.le_trans (Ek.write_used2 d i l) (by have := KU.out; omega)
        clear P8 T8 N8 hsl hb9 KU hz9
        generalize Ek.write d (i : Int) l = d9 at CP P9 HUW
        generalize Ek.writeE d (i : Int) l = ee at CP
        generalize l.length = ll at hcv CP
        go_wp2_with (first | (refine wpList_load_row rfl 40 (.tmp 19) rfl X5 rfl 40 _ (0, 0) _ T5.out Try.underlying40 rfl Try.infoDisk4 ?_) | (refine wpList_store_row rfl 40 (.tmp 13) (.tmp 96) rfl B7 #[.slice ya yn yc, .slice yl ym yk, .int .i64 yf, .bool yd] rfl rfl 40 _ Z5.out Try.infoDisk4 rfl (by simp [Value.oneCell']) ?_))
        refine CP.out.mono ?_
        clear CP hcv f0
        rintro e w10 hp
        have hkeep := hp.2.2
        obtain ⟨rfl, O10⟩ := P9.out.prog hp
        have P10 := Lib.hid O10
        have T10 := Lib.hid (show Has w10 B7 (.cells #[.slice ya yn yc, .slice yl ym yk, .int .i64 yf, .bool yd] 40) from (hkeep _ HE5.out.1).trans T9.out)
        have N10 := Lib.hid (show Has w10 AB (.cells CS 9) from (hkeep _ HA5.out.1).trans N9.out)
        clear hp hkeep O10 P9 T9 N9 P5 T5 Z5 N5
        have hlt := HLT.out
        go_wp2_with fail
        go_round
        case rel => exact ⟨i + 1, d9, ya, yn, yc, yl, ym, yk, yf, yd, _, _, by go_num, by omega, P10, T10, HE5, HUW, N10, HA5⟩
        case measure => simp [intOf]; omega
    · have j0 : decide ((i : Int) < 5) = false := decide_eq_false (by omega)
      have CL : Hid (Calls Try.prog 23 #[.pointer (some ⟨b, 0, none⟩)] wr (LoPost wr d)) := by
        obtain ⟨Sx, hd, _⟩ := KP.out.ly
        exact Load_any wr Sx b d hd
      have CR : Hid (∀ W, Below wr.heap.size wr W → Calls Try.prog 24 #[.agg #[.slice xa xn xc, .slice xl xm xk, .int .i64 xf, .bool xd]] W fun e w' => e = .returned (rlv d) ∧ Below W.heap.size W w') := fun W hW => rload_any W G _ d (KP.out.doc.later hW)
      have B9 := Lib.hid KP.out.below
      have T9 := KT
      have LV := Lib.hid zlives_is
      clear hi KP KT KE KU KN KA
      go_wp2_with fail
      refine CL.out.mono ?_
      clear CL
      rintro e w5 ⟨hb5, a5, c5, rfl, hs5, _⟩
      have B5 := Lib.hid (B9.out.trans (hb5.mono B9.out.size))
      have T5 := Lib.hid (T9.out.later hb5)
      have C5 := Lib.hid (CR.out w5 hb5)
      have S5 := Lib.hid hs5
      clear hb5 hs5 CR B9 T9
      unfold rlv at C5
      go_wp2_with (refine wpList_load_row rfl 40 (.tmp 13) rfl B7 rfl 40 _ (0, 0) _ T5.out Try.underlying40 rfl Try.infoDisk4 ?_)
      refine C5.out.mono ?_
      clear C5
      rintro e w6 ⟨rfl, hb6⟩
      have B6 := Lib.hid (B5.out.trans (hb6.mono B5.out.size))
      obtain ⟨LT, hLT⟩ : ∃ S, S = strB (Sk.loadB d) := ⟨_, rfl⟩
      have hcv := string_of w6 a5 (Sk.loadB d).length c5 _ LT (S5.out.later hb6) (Lib.hid hLT)
      rw [← hLT]
      have k1 : (LT.toList == LT.toList) = true := beq_self_eq_true _
      have k2 : (((Sk.loadG d : Nat) : Int) == ((Sk.loadG d : Nat) : Int)) = true := beq_self_eq_true _
      have k3 : (Sk.loadE d == Sk.loadE d) = true := beq_self_eq_true _
      clear hb6 S5 T5 B5 hLT
      generalize ((Sk.loadG d : Nat) : Int) = zg at *
      generalize Sk.loadE d = ze at *
      generalize (Sk.loadB d).length = zl at *
      go_wp2_with fail
      refine (LV.out _).mono ?_
      rintro e w9 ⟨rfl, hb9⟩
      go_wp2_with fail
      go_ret
      exact ⟨rfl, B6.out.trans (hb9.mono B6.out.size)⟩

theorem u8_nat {n : Int} (h : (Lit.int .u8 n).wf = true) : ∃ m : Nat, n = (m : Int) ∧ m < 256 := by
  have := wf_u8 h
  exact ⟨n.toNat, by omega, by omega⟩
theorem slotsHeaders_walk (v1 : Value) (bs1 : List Nat) (v2 : Value) (bs2 : List Nat) (g m : Nat) (r : Bool) (w : World) (h1 : Sl w v1 bs1) (_l1 : bs1.length ≤ reachBytes) (h2 : Sl w v2 bs2) (_l2 : bs2.length ≤ reachBytes) (hg : g < 4294967296) (hm : m < 256) :
    Calls Try.prog 5 #[v1, v2, .int .u32 (g : Int), .int .u8 (m : Int), .bool r] w fun e w' => e = .returned (.bool true) ∧ Below w.heap.size w w' := by
  obtain ⟨a1, n1, c1, rfl, _⟩ := id h1
  obtain ⟨a2, n2, c2, rfl, _⟩ := id h2
  by_cases h : 1024 < n2 ∨ 512 < n1
  · exact heads_few a1 n1 c1 a2 n2 c2 g m r h w
  · cases r with
    | false => exact heads_false a1 n1 c1 a2 n2 c2 g m (by omega) (by omega) bs1 bs2 hg hm w h1 h2
    | true => exact heads_true a1 n1 c1 a2 n2 c2 g m (by omega) (by omega) bs1 bs2 hg hm w h1 h2

set_option maxRecDepth 100000 in
theorem slotsHeaders_lifted (os : Os) (started : os.Started) (H : Type) (enc : TypeId × Value → H) :
    ReturnsInHanded {} Try.checked os 5 .any (Rows.slotsHeadersSpec.pre6 enc Try.prog Try.f5 Rows.slotsHeadersRow.domain false) (Rows.slotsHeadersSpec.post enc Try.prog Try.f5 false true false false) := by
  refine returnsInHanded_of_change_sized (C := Try.checked) Try.own started (by kernel_rfl) Try.func5
    (ChangeSpec.witness6 (enc := enc) (C := Try.checked) false ⟨#[], #[.slice none 0 0, .slice none 0 0, .int .u32 0, .int .u8 0, .bool false], []⟩ 8 (by kernel_rfl) (by kernel_rfl) (by kernel_rfl) (by kernel_rfl)) ?_
  intro W base args ds gs before hval0 hW _ hsz0 _
  have hval : ∀ (j : Nat) t v, Try.f5.params[j]? = some t → args[j]? = some v → Value.okWide Try.prog W .any base t v := hval0
  have hsz : (DataW.weightsEach Try.prog (Try.f5.params.toList ++ Rows.slotsHeadersSpec.plain.varTypes Try.prog) (ds ++ gs)).all (· ≤ reachBytes) = true := hsz0
  have hW' := hW
  obtain ⟨p, q, hA0, hV, rfl, hfz, hnd⟩ := hW
  have hA : DataW.TrodAll enc Try.prog W 0 (fun _ => true) true Try.f5.params.toList args.toList ds p := hA0
  rw [Try.params5] at hA hval hsz
  obtain ⟨v0, vs0, d0, ds0, p0, q0, hargs, rfl, rfl, h0, r0⟩ := trodAll_cons hA
  obtain ⟨v1, vs1, d1, ds1, p1, q1, rfl, rfl, rfl, h1, r1⟩ := trodAll_cons r0
  obtain ⟨v2, vs2, d2, ds2, p2, q2, rfl, rfl, rfl, h2, r2⟩ := trodAll_cons r1
  obtain ⟨v3, vs3, d3, ds3, p3, q3, rfl, rfl, rfl, h3, r3⟩ := trodAll_cons r2
  obtain ⟨v4, vs4, d4, ds4, p4, q4, rfl, rfl, rfl, h4, r4⟩ := trodAll_cons r3
  obtain ⟨rfl, rfl, rfl⟩ := trodAll_nil r4
  obtain rfl : args = #[v0, v1, v2, v3, v4] := by cases args; simp_all
  obtain ⟨rfl, rfl⟩ := trodVars_none hV
  have k0 := h0
  have lt0 : ∀ x ∈ p0, x.block < W.heap.size := by obtain ⟨m, hm⟩ := k0; exact DataW.trod_lt m _ _ _ hm
  have w0 : ∀ n ∈ d0.weights Try.prog 22, n ≤ reachBytes := fun n hn => by simpa using List.all_eq_true.1 hsz n (DataW.weights_mem_each (j := 0) rfl rfl n hn)
  obtain ⟨bs0, sl0, ln0⟩ := bytes_open (hval 0 22 v0 rfl rfl) h0 w0
  have k1 := h1
  have lt1 : ∀ x ∈ p1, x.block < W.heap.size := by obtain ⟨m, hm⟩ := k1; exact DataW.trod_lt m _ _ _ hm
  have w1 : ∀ n ∈ d1.weights Try.prog 22, n ≤ reachBytes := fun n hn => by simpa using List.all_eq_true.1 hsz n (DataW.weights_mem_each (j := 1) rfl rfl n hn)
  obtain ⟨bs1, sl1, ln1⟩ := bytes_open (hval 1 22 v1 rfl rfl) h1 w1
  have k2 := h2
  have lt2 : ∀ x ∈ p2, x.block < W.heap.size := by obtain ⟨m, hm⟩ := k2; exact DataW.trod_lt m _ _ _ hm
  obtain ⟨n2, ev2, _, _, wn2⟩ := open_int Try.underlying51 (hval 2 51 v2 rfl rfl) h2
  subst ev2
  obtain ⟨m2, rfl, lm2⟩ := u32_nat wn2
  have k3 := h3
  have lt3 : ∀ x ∈ p3, x.block < W.heap.size := by obtain ⟨m, hm⟩ := k3; exact DataW.trod_lt m _ _ _ hm
  obtain ⟨n3, ev3, _, _, wn3⟩ := open_int Try.underlying5 (hval 3 5 v3 rfl rfl) h3
  subst ev3
  obtain ⟨m3, rfl, lm3⟩ := u8_nat wn3
  have k4 := h4
  have lt4 : ∀ x ∈ p4, x.block < W.heap.size := by obtain ⟨m, hm⟩ := k4; exact DataW.trod_lt m _ _ _ hm
  obtain ⟨b4, eb4, _, _⟩ := open_bool Try.underlying4 (hval 4 4 v4 rfl rfl) h4
  subst eb4
  clear hA0 hval0 hsz0
  refine (slotsHeaders_walk v0 bs0 v1 bs1 m2 m3 b4 W sl0 ln0 sl1 ln1 lm2 lm3 ).mono fun e W' ⟨he, bel⟩ => ?_
  subst he
  exact ⟨_, rfl, _, _, _, [], _, [], hW', trodAll_mk1 (shut_bool Try.underlying4 _), (trodAll_cons_mk (Below.trod Try.laidOut (by kernel_rfl) (of_decide_eq_true (by kernel_rfl)) k0 bel lt0) (trodAll_cons_mk (Below.trod Try.laidOut (by kernel_rfl) (of_decide_eq_true (by kernel_rfl)) k1 bel lt1) (trodAll_cons_mk (Below.trod Try.laidOut (by kernel_rfl) (of_decide_eq_true (by kernel_rfl)) k2 bel lt2) (trodAll_cons_mk (Below.trod Try.laidOut (by kernel_rfl) (of_decide_eq_true (by kernel_rfl)) k3 bel lt3) (trodAll_cons_mk (Below.trod Try.laidOut (by kernel_rfl) (of_decide_eq_true (by kernel_rfl)) k4 bel lt4) trodAll_mk0))))), rfl, bel.frame _, fun h => by cases h⟩

theorem slotsHeaders_proved : Rows.SlotsHeadersSaid :=
  OpenClaim.holds_of_wide 5 Try.f5 rfl rfl rfl rfl rfl rfl rfl ⟨rfl, rfl, rfl, rfl, rfl⟩ rfl rfl rfl rfl rfl (by kernel_rfl) Try.func5 (by kernel_rfl)
    (of_decide_eq_true (by kernel_rfl)) (by unfold Func.isWrapper; rw [if_neg (of_decide_eq_false (by kernel_rfl))]; exact ⟨rfl, rfl⟩)
    (fun os started H enc _ => slotsHeaders_lifted os started H enc)
end Go.Proofs.Ytillckjohlbaiaa
