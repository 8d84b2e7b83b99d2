/- Contract of slots' load: what a disk's header says, and the bytes of its slot, if it is right. -/
import Derived.Test.YthbiibinmofmfaaMade

namespace Go.Proofs.Ythbiibinmofmfaa
set_option maxRecDepth 100000
open Go.RowKit

theorem results_cell_tmp2 {fn : Func} {p u t : Tmp} {ty : TypeId} (h : fn.results = #[.cell p ty, .tmp u, .tmp t]) (tmps : Array Value) (P : Program) (w : World) :
    (results fn tmps).run P w =
      ((asAddr (tmps.getD p undef)).run P w).andThen fun a w₁ => ((loadVar ty a).run P w₁).andThen fun v w₂ => .ok (.tuple #[v, tmps.getD u undef, tmps.getD t undef]) w₂ := by
  simp only [results, h]
  simp [Sem.run_bind, Result.andThen]
def zst : Value := .agg #[.int .i64 0, .int .i64 0, .int .i64 0, .int .i64 0]
/-- What load leaves. -/
def LdPost (w : World) (d : Ek.Dk) (e : Ending) (w' : World) : Prop := Below w.heap.size w w' ∧
  ((Sk.loadE d ≠ 0 ∧ e = .returned (.tuple #[zst, .slice none 0 0, .int .i64 (Sk.loadE d)])) ∨
   (Sk.loadE d = 0 ∧ ∃ a cap, e = .returned (.tuple #[sts (Sk.says d), .slice a (Sk.says d).size cap, .int .i64 0]) ∧ Mine w' w.heap.size a (Sk.says d).size cap (Sk.loadB d)))

theorem wrap_small (n : Nat) (h : n < 4294967296) : Value.int .i64 (IntKind.i64.wrap (n : Int)) = .int .i64 (n : Int) := by
  have e : IntKind.i64.wrap (n : Int) = (n : Int) := by rw [IntKind.wrap_i64]; omega
  rw [e]
set_option maxRecDepth 100000 in
set_option maxHeartbeats 4000000 in
theorem load_few (w : World) (S : Nat → Prop) (b : Nat) (d : Ek.Dk) (h : Dsk w S b d) (hn : d.n < 3) : Calls Try.prog 27 #[.pointer (some ⟨b, 0, none⟩)] w (LdPost w d) := by
  have eE : Sk.loadE d = 7 := by unfold Sk.loadE; rw [if_pos hn]
  have HC := Lib.hid (check_any _ S b d (h.later (below1 w (.cells #[.int .i64 0, .int .i64 0, .int .i64 0, .int .i64 0] 67))))
  rw [if_pos hn] at HC
  have HP : Hid (∀ w', Below w.heap.size w w' → LdPost w d (.returned (.tuple #[.agg #[.int .i64 0, .int .i64 0, .int .i64 0, .int .i64 0], .slice none 0 0, .int .i64 7])) w') := fun w' hb => ⟨hb, Or.inl ⟨by rw [eE]; decide, by rw [eE]; rfl⟩⟩
  have HB1 : Hid (Below w.heap.size w (w.alloc (.cells #[.int .i64 0, .int .i64 0, .int .i64 0, .int .i64 0] 67))) := below1 w _
  clear h hn eE
  go_enter Try.func27, Try.ntmps27
  go_wp2_with fail
  refine HC.out.mono ?_
  clear HC
  rintro e w' ⟨rfl, rfl⟩
  go_wp2_with fail
  refine bodyPost_ret (v := .tuple #[.agg #[.int .i64 0, .int .i64 0, .int .i64 0, .int .i64 0], .slice none 0 0, .int .i64 7]) ?_ rfl (HP.out _ HB1.out)
  rw [results_cell_tmp2 rfl]
  go_simp
theorem nod_load {w : World} {v : Value} (h : NoD w v) : Calls Try.prog 27 #[v] w fun e w' => e = .returned (.tuple #[zst, .slice none 0 0, .int .i64 1]) ∧ Below w.heap.size w w' := by
  have hN : NoD (w.alloc (.cells #[.int .i64 0, .int .i64 0, .int .i64 0, .int .i64 0] 67)) v := by
    rcases h with rfl | ⟨b, rfl, hb⟩
    · exact Or.inl rfl
    · refine Or.inr ⟨b, rfl, ?_⟩
      rw [(below1 w (.cells #[.int .i64 0, .int .i64 0, .int .i64 0, .int .i64 0] 67)).cell (p := ⟨b, 0, none⟩) (World.block_lt_of_cell? w _ hb)]; exact hb
  have HC := Lib.hid (nod_check hN)
  have HP : Hid (Below w.heap.size w (w.alloc (.cells #[.int .i64 0, .int .i64 0, .int .i64 0, .int .i64 0] 67))) := below1 w _
  unfold zst
  clear h hN
  go_enter Try.func27, Try.ntmps27
  go_wp2_with fail
  refine HC.out.mono ?_
  clear HC
  rintro e w' ⟨rfl, rfl⟩
  go_wp2_with fail
  refine bodyPost_ret (v := .tuple #[.agg #[.int .i64 0, .int .i64 0, .int .i64 0, .int .i64 0], .slice none 0 0, .int .i64 1]) ?_ rfl ⟨rfl, HP.out⟩
  rw [results_cell_tmp2 rfl]
  go_simp

set_option maxRecDepth 100000 in
set_option maxHeartbeats 4000000 in
theorem load_more (w : World) (S : Nat → Prop) (b : Nat) (d : Ek.Dk) (h : Dsk w S b d) (hn : ¬ d.n < 3) : Calls Try.prog 27 #[.pointer (some ⟨b, 0, none⟩)] w (LdPost w d) := by
  have hok := h.ok
  have hn8 := hok.hi
  have HC := Lib.hid (check_any _ S b d (h.later (below1 w (.cells #[.int .i64 0, .int .i64 0, .int .i64 0, .int .i64 0] 67))))
  rw [if_neg hn] at HC
  have hrd := read_any _ S b d 0 (h.later (below1 w (.cells #[.int .i64 0, .int .i64 0, .int .i64 0, .int .i64 0] 67)))
  have HB1 : Hid (Below w.heap.size w (w.alloc (.cells #[.int .i64 0, .int .i64 0, .int .i64 0, .int .i64 0] 67))) := below1 w _
  have HZ1 : Hid (Has (w.alloc (.cells #[.int .i64 0, .int .i64 0, .int .i64 0, .int .i64 0] 67)) w.heap.size (.cells #[.int .i64 0, .int .i64 0, .int .i64 0, .int .i64 0] 67 (0, 0))) := Has.new w _
  by_cases hd : d.dark = true
  · have eE : Sk.loadE d = 6 := by unfold Sk.loadE; rw [if_neg hn, if_pos hd]
    have eR : Ek.readE d 0 = 6 := by unfold Ek.readE; rw [if_neg (by omega), if_pos hd]
    have HP : Hid (∀ w', Below w.heap.size w w' → LdPost w d (.returned (.tuple #[.agg #[.int .i64 0, .int .i64 0, .int .i64 0, .int .i64 0], .slice none 0 0, .int .i64 6])) w') := fun w' hb => ⟨hb, Or.inl ⟨by rw [eE]; decide, by rw [eE]; rfl⟩⟩
    have HR : Hid (Calls Try.prog 21 #[.pointer (some ⟨b, 0, none⟩), .int .i64 0] (w.alloc (.cells #[.int .i64 0, .int .i64 0, .int .i64 0, .int .i64 0] 67)) fun e w' => e = .returned (.tuple #[.slice none 0 0, .int .i64 6]) ∧ Below (w.alloc (.cells #[.int .i64 0, .int .i64 0, .int .i64 0, .int .i64 0] 67)).heap.size (w.alloc (.cells #[.int .i64 0, .int .i64 0, .int .i64 0, .int .i64 0] 67)) w') := hrd.mono fun e w' hp => by
      obtain ⟨h1, h2⟩ := hp
      rcases h2 with ⟨_, h2⟩ | ⟨h2, _⟩
      · rw [eR] at h2; exact ⟨h2, h1⟩
      · rw [eR] at h2; exact absurd h2 (by decide)
    clear hrd hok h hn hd eE eR
    go_enter Try.func27, Try.ntmps27
    go_wp2_with fail
    refine HC.out.mono ?_
    clear HC
    rintro e w' ⟨rfl, rfl⟩
    go_wp2_with fail
    refine HR.out.mono ?_
    clear HR
    rintro e w2 ⟨rfl, hb2⟩
    have KB := Lib.hid (HB1.out.trans (hb2.mono HB1.out.size))
    have KH := Lib.hid (Has.later HZ1.out hb2)
    clear hb2 HB1 HZ1
    have y0 := KH.out.cell 0
    have y1 := KH.out.cell 1
    have y2 := KH.out.cell 2
    have y3 := KH.out.cell 3
    have z0 := KH.out.free 0
    have z1 := KH.out.free 1
    have z2 := KH.out.free 2
    have z3 := KH.out.free 3
    go_wp2_with fail
    obtain ⟨f1, f2⟩ := four_set KH.out (.int .i64 0) (.int .i64 0) (.int .i64 0) (.int .i64 0)
    have HBE := Lib.hid (f2.below KB.out (Nat.le_refl _) KB.out.size)
    have e0 := f1.cell 0
    have e1 := f1.cell 1
    have e2 := f1.cell 2
    have e3 := f1.cell 3
    have FO := Lib.hid f2
    clear f1 f2
    generalize hwE : ((((w2).setCell ⟨w.heap.size, 0, none⟩ (.int .i64 0)).setCell ⟨w.heap.size, 1, none⟩ (.int .i64 0)).setCell ⟨w.heap.size, 2, none⟩ (.int .i64 0)).setCell ⟨w.heap.size, 3, none⟩ (.int .i64 0) = wE at HBE FO e0 e1 e2 e3 ⊢
    clear hwE
    refine bodyPost_ret (v := .tuple #[.agg #[.int .i64 0, .int .i64 0, .int .i64 0, .int .i64 0], .slice none 0 0, .int .i64 6]) ?_ rfl (HP.out _ HBE.out)
    rw [results_cell_tmp2 rfl]
    go_simp
  · have hd' : d.dark = false := by simpa using hd
    have eR : Ek.readE d 0 = 0 := by unfold Ek.readE; rw [if_neg (by omega), if_neg hd]
    have HR : Hid (Calls Try.prog 21 #[.pointer (some ⟨b, 0, none⟩), .int .i64 0] (w.alloc (.cells #[.int .i64 0, .int .i64 0, .int .i64 0, .int .i64 0] 67)) fun e w' => (∃ g, e = .returned (.tuple #[.slice (some ⟨g, 0, none⟩) 512 512, .int .i64 0]) ∧ Has w' g (.cells (vb (Ek.now d 0)).toArray 93 (0, 0))) ∧ Below (w.alloc (.cells #[.int .i64 0, .int .i64 0, .int .i64 0, .int .i64 0] 67)).heap.size (w.alloc (.cells #[.int .i64 0, .int .i64 0, .int .i64 0, .int .i64 0] 67)) w') := hrd.mono fun e w' hp => by
      obtain ⟨h1, h2⟩ := hp
      rcases h2 with ⟨h2, _⟩ | ⟨_, g, h2, _, h3⟩
      · exact absurd eR h2
      · exact ⟨⟨g, h2, h3⟩, h1⟩
    have HRW := Lib.hid (Ek.now_row hok 0)
    have HHD := Lib.hid (hread_any (Ek.now d 0) HRW.out)
    have HLEN : Hid (∀ wx, Below w.heap.size w wx → Calls Try.prog 28 #[.pointer (some ⟨b, 0, none⟩)] wx fun e w' => e = .returned (.int .i64 (d.n : Int)) ∧ wx = w') := fun wx hb => len_any wx S b d (h.later hb)
    have HROOM : Hid (∀ wx, Calls Try.prog 22 #[.int .i64 (d.n : Int)] wx fun e w' => e = .returned (.int .i64 ((Sk.room d.n : Nat) : Int)) ∧ wx = w') := fun wx => by have := zroom_any (d.n : Int) wx; rw [Sk.roomI_nat] at this; exact this
    have hE : Sk.loadE d = if ¬ Sk.Right (Ek.now d 0) ∨ 1 < (Sk.says d).slot ∨ Sk.room d.n < (Sk.says d).size then 15 else if Cr.sum 0 (Sk.content d (Sk.says d).slot (Sk.says d).size) ≠ (Sk.says d).sum then 15 else 0 := by
      unfold Sk.loadE; rw [if_neg hn, if_neg hd]
    have HCON : Hid (∀ wx, Below w.heap.size w wx → (Sk.says d).slot ≤ 1 → (Sk.says d).size ≤ Sk.room d.n → Calls Try.prog 52 #[.pointer (some ⟨b, 0, none⟩), sts (Sk.says d)] wx fun e w' => ∃ a cap, e = .returned (.tuple #[.slice a (Sk.says d).size cap, .int .i64 0]) ∧ Mine w' wx.heap.size a (Sk.says d).size cap (Sk.content d (Sk.says d).slot (Sk.says d).size) ∧ Below wx.heap.size wx w') := fun wx hb h1 h2 => content_any wx S b d (h.later hb) (Sk.says d).gen _ _ (Sk.says d).sum hd' (by omega) h1 h2
    have hF := Sk.fits_told HRW.out.2
    have HLB : Hid (Sk.loadE d = 0 → Sk.loadB d = Sk.content d (Sk.says d).slot (Sk.says d).size) := fun h0 => by unfold Sk.loadB; rw [if_pos h0]
    have HPE : Hid (Sk.loadE d = 15 → ∀ w', Below w.heap.size w w' → LdPost w d (.returned (.tuple #[.agg #[.int .i64 0, .int .i64 0, .int .i64 0, .int .i64 0], .slice none 0 0, .int .i64 15])) w') := fun eE w' hb => ⟨hb, Or.inl ⟨by rw [eE]; decide, by rw [eE]; rfl⟩⟩
    have HPO : Hid (Sk.loadE d = 0 → ∀ w' a cap, Below w.heap.size w w' → Mine w' w.heap.size a (Sk.says d).size cap (Sk.content d (Sk.says d).slot (Sk.says d).size) → LdPost w d (.returned (.tuple #[sts (Sk.says d), .slice a (Sk.says d).size cap, .int .i64 0])) w') := fun eE w' a cap hb hm => ⟨hb, Or.inr ⟨eE, a, cap, rfl, by rw [HLB.out eE]; exact hm⟩⟩
    have hrm : Sk.room d.n ≤ 1048576 := by unfold Sk.room; split <;> omega
    change Sk.Fits (Sk.says d) at hF
    have HEQ : Hid (Sk.told (Ek.now d 0) = Sk.says d) := rfl
    rw [HEQ.out] at HHD
    generalize Sk.says d = s at hE hF HCON HPO HHD
    obtain ⟨g, sl, sz, sm⟩ := s
    obtain ⟨hf1, hf2, hf3, hf4⟩ := hF
    dsimp only at hf1 hf2 hf3 hf4 hE HCON HPO
    unfold sts at HHD HCON HPO
    dsimp only at HHD HCON HPO
    generalize Sk.loadE d = LE at hE HPE HPO
    generalize Sk.content d sl sz = CT at hE HCON HPO
    obtain ⟨RT, hRT⟩ : ∃ R, R = Ek.now d 0 := ⟨_, rfl⟩
    rw [← hRT] at hE HR HRW HHD
    obtain ⟨N, hN⟩ : ∃ N, N = d.n := ⟨_, rfl⟩
    rw [← hN] at hE HLEN HROOM HCON hrm
    obtain ⟨RM, hRM⟩ : ∃ R, R = Sk.room N := ⟨_, rfl⟩
    rw [← hRM] at hE HROOM HCON hrm
    have HE := Lib.hid hE
    clear hrd hok h hn hd hd' eR hn8 hE HLB HEQ hRT hN hRM
    go_enter Try.func27, Try.ntmps27
    go_wp2_with fail
    refine HC.out.mono ?_
    clear HC
    rintro e w' ⟨rfl, rfl⟩
    go_wp2_with fail
    refine HR.out.mono ?_
    clear HR
    rintro e w2 ⟨⟨g2, rfl, hg2⟩, hb2⟩
    have HB2 := Lib.hid (HB1.out.trans (hb2.mono HB1.out.size))
    have HZ2 := Lib.hid (Has.later HZ1.out hb2)
    have HRG := Lib.hid hg2.range
    have hap := fun (W : World) => run_arrayAt (P := Try.prog) W 100 5 512 (some ⟨g2, 0, none⟩) 512 512 Try.underlying100 (Nat.le_refl _)
    have HI : Hid ((Try.prog.info? 100).map (·.size) = some (vb RT).length) := by show _ = _; rw [header_size, vb_length, HRW.out.1]
    clear hb2 HB1 HZ1 hg2
    go_wp2_with (refine wpList_load_mid rfl 100 _ rfl g2 0 rfl (vb RT) _ HRG.out Try.underlying100 rfl HI.out ?_)
    refine (HHD.out w2).mono ?_
    clear HHD hap HI HRG
    rintro e w3 ⟨rfl, hb3⟩
    have KB3 := Lib.hid (HB2.out.trans (hb3.mono HB2.out.size))
    have KH3 := Lib.hid (Has.later HZ2.out hb3)
    clear hb3 HB2 HZ2
    go_wp2_with fail
    have KB4 : Hid (Below w.heap.size w (w3.alloc (.cells #[.int .i64 (g : Int), .int .i64 (sl : Int), .int .i64 (sz : Int), .int .i64 (sm : Int)] 67))) := KB3.out.trans ((below1 w3 _).mono KB3.out.size)
    have KH4 : Hid (Has (w3.alloc (.cells #[.int .i64 (g : Int), .int .i64 (sl : Int), .int .i64 (sz : Int), .int .i64 (sm : Int)] 67)) w.heap.size (.cells #[.int .i64 0, .int .i64 0, .int .i64 0, .int .i64 0] 67 (0, 0))) := KH3.out.alloc _
    have KS4 : Hid (Has (w3.alloc (.cells #[.int .i64 (g : Int), .int .i64 (sl : Int), .int .i64 (sz : Int), .int .i64 (sm : Int)] 67)) w3.heap.size (.cells #[.int .i64 (g : Int), .int .i64 (sl : Int), .int .i64 (sz : Int), .int .i64 (sm : Int)] 67 (0, 0))) := Has.new w3 _
    generalize w3.alloc (.cells #[.int .i64 (g : Int), .int .i64 (sl : Int), .int .i64 (sz : Int), .int .i64 (sm : Int)] 67) = w4 at KB4 KH4 KS4 ⊢
    have HL4 : Hid (∀ x : Wd w4.heap.size w4, Calls Try.prog 28 #[.pointer (some ⟨b, 0, none⟩)] x.w fun e w' => e = .returned (.int .i64 (N : Int)) ∧ Below x.w.heap.size x.w w') := fun x => (HLEN.out x.w (KB4.out.trans (x.h.mono KB4.out.size))).mono fun e w' ⟨he, hw⟩ => ⟨he, hw ▸ Below.refl _ _⟩
    have HR4 : Hid (∀ x : Wd w4.heap.size w4, Calls Try.prog 22 #[.int .i64 (N : Int)] x.w fun e w' => e = .returned (.int .i64 (RM : Int)) ∧ Below x.w.heap.size x.w w') := fun x => (HROOM.out x.w).mono fun e w' ⟨he, hw⟩ => ⟨he, hw ▸ Below.refl _ _⟩
    have lx1 : ∀ x : Wd w4.heap.size w4, x.w.cell? ⟨w3.heap.size, 1, none⟩ = some (.int .i64 (sl : Int)) := fun x => (Has.later KS4.out x.h).cell 1
    have lx2 : ∀ x : Wd w4.heap.size w4, x.w.cell? ⟨w3.heap.size, 2, none⟩ = some (.int .i64 (sz : Int)) := fun x => (Has.later KS4.out x.h).cell 2
    clear HLEN HROOM KB3 KH3
    by_cases c1 : Sk.Right RT
    · by_cases c2 : 1 < sl
      · have HLE := Lib.hid (HPE.out (by rw [HE.out, if_pos (Or.inr (Or.inl c2))]))
        clear HPE HPO HE HCON
        have d1 : decide (Sk.Right RT) = true := decide_eq_true c1
        have d2 : decide ((1 : Int) < (sl : Int)) = true := decide_eq_true (by omega)
        refine region_made w4.heap.size w4 (by kernel_rfl) (by kernel_rfl) (Below.refl _ _) ?_
        repeat (go_big_quiet_step (first | exact made_call _ (Nat.le_refl _) (HL4.out _) | exact made_call _ (Nat.le_refl _) (HR4.out _)))
        refine wpQuiet_nil fun x => ?_
        have KB := Lib.hid (KB4.out.trans (x.h.mono KB4.out.size))
        have KH := Lib.hid (Has.later KH4.out x.h)
        have KS := Lib.hid (Has.later KS4.out x.h)
        obtain ⟨w5, hb5⟩ := x
        dsimp only at KB KH KS ⊢
        clear lx1 lx2 HL4 HR4 hb5 KB4 KH4 KS4
        have y0 := KH.out.cell 0
        have y1 := KH.out.cell 1
        have y2 := KH.out.cell 2
        have y3 := KH.out.cell 3
        have z0 := KH.out.free 0
        have z1 := KH.out.free 1
        have z2 := KH.out.free 2
        have z3 := KH.out.free 3
        go_wp2_with fail
        obtain ⟨f1, f2⟩ := four_set KH.out (.int .i64 0) (.int .i64 0) (.int .i64 0) (.int .i64 0)
        have HBE := Lib.hid (f2.below KB.out (Nat.le_refl _) KB.out.size)
        have e0 := f1.cell 0
        have e1 := f1.cell 1
        have e2 := f1.cell 2
        have e3 := f1.cell 3
        have FO := Lib.hid f2
        clear f1 f2
        generalize hwE : ((((w5).setCell ⟨w.heap.size, 0, none⟩ (.int .i64 0)).setCell ⟨w.heap.size, 1, none⟩ (.int .i64 0)).setCell ⟨w.heap.size, 2, none⟩ (.int .i64 0)).setCell ⟨w.heap.size, 3, none⟩ (.int .i64 0) = wE at HBE FO e0 e1 e2 e3 ⊢
        clear hwE
        refine bodyPost_ret (v := .tuple #[.agg #[.int .i64 0, .int .i64 0, .int .i64 0, .int .i64 0], .slice none 0 0, .int .i64 15]) ?_ rfl (HLE.out _ HBE.out)
        rw [results_cell_tmp2 rfl]
        go_simp
      · by_cases c3 : RM < sz
        · have HLE := Lib.hid (HPE.out (by rw [HE.out, if_pos (Or.inr (Or.inr c3))]))
          clear HPE HPO HE HCON
          have d1 : decide (Sk.Right RT) = true := decide_eq_true c1
          have d2 : decide ((1 : Int) < (sl : Int)) = false := decide_eq_false (by omega)
          have d3 : decide ((RM : Int) < (sz : Int)) = true := decide_eq_true (by omega)
          refine region_made w4.heap.size w4 (by kernel_rfl) (by kernel_rfl) (Below.refl _ _) ?_
          repeat (go_big_quiet_step (first | exact made_call _ (Nat.le_refl _) (HL4.out _) | exact made_call _ (Nat.le_refl _) (HR4.out _)))
          refine wpQuiet_nil fun x => ?_
          have KB := Lib.hid (KB4.out.trans (x.h.mono KB4.out.size))
          have KH := Lib.hid (Has.later KH4.out x.h)
          have KS := Lib.hid (Has.later KS4.out x.h)
          obtain ⟨w5, hb5⟩ := x
          dsimp only at KB KH KS ⊢
          clear lx1 lx2 HL4 HR4 hb5 KB4 KH4 KS4
          have y0 := KH.out.cell 0
          have y1 := KH.out.cell 1
          have y2 := KH.out.cell 2
          have y3 := KH.out.cell 3
          have z0 := KH.out.free 0
          have z1 := KH.out.free 1
          have z2 := KH.out.free 2
          have z3 := KH.out.free 3
          go_wp2_with fail
          obtain ⟨f1, f2⟩ := four_set KH.out (.int .i64 0) (.int .i64 0) (.int .i64 0) (.int .i64 0)
          have HBE := Lib.hid (f2.below KB.out (Nat.le_refl _) KB.out.size)
          have e0 := f1.cell 0
          have e1 := f1.cell 1
          have e2 := f1.cell 2
          have e3 := f1.cell 3
          have FO := Lib.hid f2
          clear f1 f2
          generalize hwE : ((((w5).setCell ⟨w.heap.size, 0, none⟩ (.int .i64 0)).setCell ⟨w.heap.size, 1, none⟩ (.int .i64 0)).setCell ⟨w.heap.size, 2, none⟩ (.int .i64 0)).setCell ⟨w.heap.size, 3, none⟩ (.int .i64 0) = wE at HBE FO e0 e1 e2 e3 ⊢
          clear hwE
          refine bodyPost_ret (v := .tuple #[.agg #[.int .i64 0, .int .i64 0, .int .i64 0, .int .i64 0], .slice none 0 0, .int .i64 15]) ?_ rfl (HLE.out _ HBE.out)
          rw [results_cell_tmp2 rfl]
          go_simp
        · have d1 : decide (Sk.Right RT) = true := decide_eq_true c1
          have d2 : decide ((1 : Int) < (sl : Int)) = false := decide_eq_false (by omega)
          have d3 : decide ((RM : Int) < (sz : Int)) = false := decide_eq_false (by omega)
          have HE2 : Hid (LE = if Cr.sum 0 CT ≠ sm then 15 else 0) := by show _ = _; rw [HE.out, if_neg (fun h => h.elim (fun q => q c1) (fun h => h.elim c2 c3))]
          have hsz : sz ≤ 1048576 := by omega
          have HCN : Hid (∀ wx, Below w.heap.size w wx → _) := fun wx hb => HCON.out wx hb (by omega) (by omega)
          clear HE HCON
          refine region_made w4.heap.size w4 (by kernel_rfl) (by kernel_rfl) (Below.refl _ _) ?_
          repeat (go_big_quiet_step (first | exact made_call _ (Nat.le_refl _) (HL4.out _) | exact made_call _ (Nat.le_refl _) (HR4.out _)))
          refine wpQuiet_nil fun x => ?_
          have KB := Lib.hid (KB4.out.trans (x.h.mono KB4.out.size))
          have KH := Lib.hid (Has.later KH4.out x.h)
          have KS := Lib.hid (Has.later KS4.out x.h)
          obtain ⟨w5, hb5⟩ := x
          dsimp only at KB KH KS ⊢
          clear lx1 lx2 HL4 HR4 hb5 KB4 KH4 KS4 c1 c2 c3 d1 d2 d3
          have s0 := KS.out.cell 0
          have s1 := KS.out.cell 1
          have s2 := KS.out.cell 2
          have s3 := KS.out.cell 3
          go_wp2_with fail
          refine (HCN.out w5 KB.out).mono ?_
          clear HCN
          rintro e w6 ⟨a6, c6, rfl, hm6, hb6⟩
          have KB6 := Lib.hid (KB.out.trans (hb6.mono KB.out.size))
          have KH6 := Lib.hid (Has.later KH.out hb6)
          have KS6 := Lib.hid (Has.later KS.out hb6)
          have KM6 : Hid (Mine w6 w.heap.size a6 sz c6 CT) := hm6.weaken KB.out.size
          clear s0 s1 s2 s3 hm6 hb6 KB KH KS
          have s3 := KS6.out.cell 3
          have HSL := Lib.hid (KM6.out.sl (by omega))
          have hq : Cr.sum 0 CT < 4294967296 := Cr.sum_lt 0 CT (by decide) KM6.out.2.2
          have HSM : Hid (∀ wx, Below w6.heap.size w6 wx → Calls Try.prog 29 #[.slice a6 sz c6] wx fun e w' => e = .returned (.int .u32 ((Cr.sum 0 CT : Nat) : Int)) ∧ wx = w') := fun wx hb => sum_any _ CT wx (HSL.out.later hb)
          generalize Cr.sum 0 CT = Q at hq HSM HE2
          have hq1 : (Q : Int) < 4294967296 := by omega
          go_wp2_with fail
          have KB : Hid (Below w.heap.size w (w6.drewN 1)) := below_drewN KB6.out 1
          have KH : Hid (Has (w6.drewN 1) w.heap.size (.cells #[.int .i64 0, .int .i64 0, .int .i64 0, .int .i64 0] 67 (0, 0))) := KH6.out
          have KS : Hid (Has (w6.drewN 1) w3.heap.size (.cells #[.int .i64 (g : Int), .int .i64 (sl : Int), .int .i64 (sz : Int), .int .i64 (sm : Int)] 67 (0, 0))) := KS6.out
          have KM : Hid (Mine (w6.drewN 1) w.heap.size a6 sz c6 CT) := KM6.out
          by_cases c4 : Q = sm
          · have HLE := Lib.hid (HPO.out (by rw [HE2.out, if_neg (by simp [c4])]))
            clear HPE HPO HE2
            have hwr : Value.int .i64 (IntKind.i64.wrap (Q : Int)) = .int .i64 (Q : Int) := wrap_small Q hq
            subst c4
            go_region_held3 (fun wx => wx.cell? ⟨w3.heap.size, 3, none⟩ = some (.int .i64 (Q : Int))) (go_keep) (first | (go_at_call 29; refine (HSM.out _ (below_drewN (Below.refl _ _) 1)).mono ?_; rintro e w' ⟨rfl, rfl⟩))
            generalize w6.drewN 1 = w7 at KB KH KS KM ⊢
            clear hq hq1 hsz HSM HSL KB6 KH6 KS6 KM6 s3 hwr
            have y0 := KH.out.cell 0
            have y1 := KH.out.cell 1
            have y2 := KH.out.cell 2
            have y3 := KH.out.cell 3
            have z0 := KH.out.free 0
            have z1 := KH.out.free 1
            have z2 := KH.out.free 2
            have z3 := KH.out.free 3
            have s0 := KS.out.cell 0
            have s1 := KS.out.cell 1
            have s2 := KS.out.cell 2
            have s3 := KS.out.cell 3
            go_wp2_with fail
            obtain ⟨f1, f2⟩ := four_set KH.out (.int .i64 (g : Int)) (.int .i64 (sl : Int)) (.int .i64 (sz : Int)) (.int .i64 (Q : Int))
            have HBE := Lib.hid (f2.below KB.out (Nat.le_refl _) KB.out.size)
            have e0 := f1.cell 0
            have e1 := f1.cell 1
            have e2 := f1.cell 2
            have e3 := f1.cell 3
            have FO := Lib.hid f2
            clear f1 f2
            generalize hwE : ((((w7).setCell ⟨w.heap.size, 0, none⟩ (.int .i64 (g : Int))).setCell ⟨w.heap.size, 1, none⟩ (.int .i64 (sl : Int))).setCell ⟨w.heap.size, 2, none⟩ (.int .i64 (sz : Int))).setCell ⟨w.heap.size, 3, none⟩ (.int .i64 (Q : Int)) = wE at HBE FO e0 e1 e2 e3 ⊢
            clear hwE
            refine bodyPost_ret (v := .tuple #[.agg #[.int .i64 (g : Int), .int .i64 (sl : Int), .int .i64 (sz : Int), .int .i64 (Q : Int)], .slice a6 sz c6, .int .i64 0]) ?_ rfl (HLE.out _ _ _ HBE.out (⟨own_same KM.out.1 (fun q hq => FO.out.block q (KM.out.1.lt q hq).2 (fun e => own_ne_has KM.out.1 KH.out (by decide) (by rw [hq, e]))), KM.out.2⟩))
            rw [results_cell_tmp2 rfl]
            go_simp
          · have HLE := Lib.hid (HPE.out (by rw [HE2.out, if_pos c4]))
            have d4 : ((Q : Int) != (sm : Int)) = true := by rw [bne_iff_ne]; omega
            clear HPE HPO HE2
            have hwr : Value.int .i64 (IntKind.i64.wrap (Q : Int)) = .int .i64 (Q : Int) := wrap_small Q hq
            go_region_held3 (fun wx => wx.cell? ⟨w3.heap.size, 3, none⟩ = some (.int .i64 (sm : Int))) (go_keep) (first | (go_at_call 29; refine (HSM.out _ (below_drewN (Below.refl _ _) 1)).mono ?_; rintro e w' ⟨rfl, rfl⟩))
            generalize w6.drewN 1 = w7 at KB KH KS KM ⊢
            clear hq hq1 hsz HSM HSL KB6 KH6 KS6 KM6 s3 hwr
            have y0 := KH.out.cell 0
            have y1 := KH.out.cell 1
            have y2 := KH.out.cell 2
            have y3 := KH.out.cell 3
            have z0 := KH.out.free 0
            have z1 := KH.out.free 1
            have z2 := KH.out.free 2
            have z3 := KH.out.free 3
            go_wp2_with fail
            obtain ⟨f1, f2⟩ := four_set KH.out (.int .i64 0) (.int .i64 0) (.int .i64 0) (.int .i64 0)
            have HBE := Lib.hid (f2.below KB.out (Nat.le_refl _) KB.out.size)
            have e0 := f1.cell 0
            have e1 := f1.cell 1
            have e2 := f1.cell 2
            have e3 := f1.cell 3
            have FO := Lib.hid f2
            clear f1 f2
            generalize hwE : ((((w7).setCell ⟨w.heap.size, 0, none⟩ (.int .i64 0)).setCell ⟨w.heap.size, 1, none⟩ (.int .i64 0)).setCell ⟨w.heap.size, 2, none⟩ (.int .i64 0)).setCell ⟨w.heap.size, 3, none⟩ (.int .i64 0) = wE at HBE FO e0 e1 e2 e3 ⊢
            clear hwE
            refine bodyPost_ret (v := .tuple #[.agg #[.int .i64 0, .int .i64 0, .int .i64 0, .int .i64 0], .slice none 0 0, .int .i64 15]) ?_ rfl (HLE.out _ HBE.out)
            rw [results_cell_tmp2 rfl]
            go_simp
    · have HLE := Lib.hid (HPE.out (by rw [HE.out, if_pos (Or.inl c1)]))
      clear HPE HPO HE HCON
      have d1 : decide (Sk.Right RT) = false := decide_eq_false c1
      refine region_made w4.heap.size w4 (by kernel_rfl) (by kernel_rfl) (Below.refl _ _) ?_
      repeat (go_big_quiet_step (first | exact made_call _ (Nat.le_refl _) (HL4.out _) | exact made_call _ (Nat.le_refl _) (HR4.out _)))
      refine wpQuiet_nil fun x => ?_
      have KB := Lib.hid (KB4.out.trans (x.h.mono KB4.out.size))
      have KH := Lib.hid (Has.later KH4.out x.h)
      have KS := Lib.hid (Has.later KS4.out x.h)
      obtain ⟨w5, hb5⟩ := x
      dsimp only at KB KH KS ⊢
      clear lx1 lx2 HL4 HR4 hb5 KB4 KH4 KS4
      have y0 := KH.out.cell 0
      have y1 := KH.out.cell 1
      have y2 := KH.out.cell 2
      have y3 := KH.out.cell 3
      have z0 := KH.out.free 0
      have z1 := KH.out.free 1
      have z2 := KH.out.free 2
      have z3 := KH.out.free 3
      go_wp2_with fail
      obtain ⟨f1, f2⟩ := four_set KH.out (.int .i64 0) (.int .i64 0) (.int .i64 0) (.int .i64 0)
      have HBE := Lib.hid (f2.below KB.out (Nat.le_refl _) KB.out.size)
      have e0 := f1.cell 0
      have e1 := f1.cell 1
      have e2 := f1.cell 2
      have e3 := f1.cell 3
      have FO := Lib.hid f2
      clear f1 f2
      generalize hwE : ((((w5).setCell ⟨w.heap.size, 0, none⟩ (.int .i64 0)).setCell ⟨w.heap.size, 1, none⟩ (.int .i64 0)).setCell ⟨w.heap.size, 2, none⟩ (.int .i64 0)).setCell ⟨w.heap.size, 3, none⟩ (.int .i64 0) = wE at HBE FO e0 e1 e2 e3 ⊢
      clear hwE
      refine bodyPost_ret (v := .tuple #[.agg #[.int .i64 0, .int .i64 0, .int .i64 0, .int .i64 0], .slice none 0 0, .int .i64 15]) ?_ rfl (HLE.out _ HBE.out)
      rw [results_cell_tmp2 rfl]
      go_simp
end Go.Proofs.Ythbiibinmofmfaa
