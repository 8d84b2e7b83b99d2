/- Contract of slots' Commit. -/
import Derived.Test.YthbiibinmofmfaaZcat
import Derived.Test.YthbiibinmofmfaaZpow

namespace Go.Proofs.Ythbiibinmofmfaa
set_option maxRecDepth 100000
open Go.RowKit

/-- All orders come to one state, or to a panic that there is not. -/
theorem region_one {P : Program} {id : Nat} {ops : Array Oper} {Q : Exit → Act → World → Prop} {a : Act} {w : World} {S : World → Prop} (a9 : Act) (w9 : World) (hm : P.follows .mixedOrders = true) (hS : S w.drew)
    (h : ∀ Q' : Exit → Act → World → Prop, Hid (Q' .normal a9 w9) → wpAnyH P .any ops (NoBoth Q') S ops.size (Array.replicate ops.size false) a w.drew) (ht : Q .normal a9 w9) : (Code.region id ops true).wp P Q a w :=
  Code.wp_mono NoBoth.imp (wp_region_held_drew hm hS (fun _ => h Q ht))
theorem region_held_both {P : Program} {id : Nat} {ops : Array Oper} {Q : Exit → Act → World → Prop} {a : Act} {w : World} {S : World → Prop} (hm : P.follows .mixedOrders = true) (hS : S w.drew)
    (h : wpAnyH P .any ops (NoBoth Q) S ops.size (Array.replicate ops.size false) a w.drew) : (Code.region id ops true).wp P Q a w :=
  Code.wp_mono NoBoth.imp (wp_region_held_drew hm hS (fun _ => h))

/-- A slice of steps, as it is carried on from W. -/
def Carry (G : Nat → Prop) (W w : World) (b : Nat) (sv : Value) (xs : List Sk.Step) : Prop := StSl w (fun k => (G k ∨ W.heap.size ≤ k) ∧ k < w.heap.size) b sv xs ∧ Below W.heap.size W w
theorem Carry.later {G : Nat → Prop} {W w w' : World} {b : Nat} {sv : Value} {xs : List Sk.Step} (h : Carry G W w b sv xs) (hb : Below w.heap.size w w') : Carry G W w' b sv xs :=
  ⟨(h.1.keep hb.size (fun k hk => hb.block k hk.2)).mono (fun _ hk => ⟨hk.1, Nat.lt_of_lt_of_le hk.2 hb.size⟩), h.2.trans (hb.mono h.2.size)⟩
theorem Carry.src {G : Nat → Prop} {W w : World} {b : Nat} {sv : Value} {xs : List Sk.Step} (h : Carry G W w b sv xs) : ∃ a c vs, sv = .slice a xs.length c ∧ Src w a xs.length c vs ∧ StsAt w (fun k => (G k ∨ W.heap.size ≤ k) ∧ k < w.heap.size) b vs xs := by
  obtain ⟨⟨a, c, vs, h1, h2, h3, h4, h5⟩, _⟩ := h
  refine ⟨a, c, vs, h1, ⟨h4.1, h2, h4.cell1, h3, fun h0 => ?_⟩, h4⟩
  obtain ⟨g, q1, _, q3, q4⟩ := h5 h0
  exact ⟨g, q1, q3, q4⟩
theorem Carry.shape {G : Nat → Prop} {W w : World} {b : Nat} {sv : Value} {xs : List Sk.Step} (h : Carry G W w b sv xs) : ∃ a c, sv = .slice a xs.length c := by
  obtain ⟨⟨a, c, vs, h1, _⟩, _⟩ := h
  exact ⟨a, c, h1⟩
/-- One step alone in a new row. -/
theorem carry_sync {G : Nat → Prop} {W w : World} {b gs : Nat} (hb : Below W.heap.size W w) (hg : W.heap.size ≤ gs) (h : Has w gs (.cells #[.func (.func 33) #[.pointer (some ⟨b, 0, none⟩)] #[]] 77 (0, 0))) : Carry G W w b (.slice (some ⟨gs, 0, none⟩) 1 1) [.sync] :=
  ⟨⟨_, 1, [.func (.func 33) #[.pointer (some ⟨b, 0, none⟩)] #[]], rfl, fun q => (by cases q), Nat.le_refl _, StsAt.one rfl, fun _ => ⟨gs, rfl, ⟨Or.inr hg, h.lt⟩, h.lt, fun i v hv => by rw [h.cell, List.getElem?_toArray]; exact hv⟩⟩, hb⟩
theorem concat_carry {G : Nat → Prop} {W w : World} {b R : Nat} {s1 s2 s3 : Value} {x1 x2 x3 : List Sk.Step} (c1 : Carry G W w b s1 x1) (c2 : Carry G W w b s2 x2) (c3 : Carry G W w b s3 x3) (h0 : 0 < (x1 ++ x2 ++ x3).length) (hl : (x1 ++ x2 ++ x3).length ≤ 100000) (hR : Has w R (.cells #[s1, s2, s3] 74 (0, 0))) :
    Calls Try.prog 31 #[.slice (some ⟨R, 0, none⟩) 3 3] w fun e w' => ∃ sv, e = .returned sv ∧ Carry G W w' b sv (x1 ++ x2 ++ x3) ∧ Below w.heap.size w w' := by
  obtain ⟨a1, k1, v1, rfl, q1, t1⟩ := c1.src
  obtain ⟨a2, k2, v2, rfl, q2, t2⟩ := c2.src
  obtain ⟨a3, k3, v3, rfl, q3, t3⟩ := c3.src
  refine (concat_any w R a1 a2 a3 _ _ _ k1 k2 k3 (x1 ++ x2 ++ x3).length v1 v2 v3 (by rw [List.length_append, List.length_append]) h0 hl (hR.cell 0) (hR.cell 1) (hR.cell 2) q1 q2 q3).mono ?_
  rintro e w' ⟨g, cap, rfl, hcap, ho, hb⟩
  have hT := (t1.append t2).append t3
  have hz := c1.2.size
  refine ⟨_, rfl, ⟨⟨some ⟨g, 0, none⟩, cap, v1 ++ v2 ++ v3, rfl, fun q => (by cases q), hcap, (hT.keep (fun k hk => hb.block k hk.2)).mono (fun k hk => ⟨hk.1, Nat.lt_of_lt_of_le hk.2 hb.size⟩), fun _ => ?_⟩, c1.2.trans (hb.mono c1.2.size)⟩, hb⟩
  obtain ⟨hg1, hg2⟩ := ho.lt g rfl
  refine ⟨g, rfl, ⟨Or.inr (Nat.le_trans hz hg1), hg2⟩, hg2, fun i v hv => ?_⟩
  rw [ho.cellAt i (by have := (List.getElem?_eq_some_iff.1 hv).1; have := hT.1; omega)]
  exact hv

/-- What is said of a slice that Commit is handed. -/
def Arg (w : World) (S : Nat → Prop) (a : Option Addr) (len cap : Nat) (bs : List Nat) : Prop := Sl w (.slice a len cap) bs ∧ len ≤ cap ∧ (0 < len → ∀ g off spot, a = some ⟨g, off, spot⟩ → ¬ S g ∧ g < w.heap.size)

set_option maxRecDepth 100000 in
set_option maxHeartbeats 4000000 in
theorem commit_refused (w : World) (S : Nat → Prop) (b : Nat) (d : Ek.Dk) (h : Dsk w S b d) (a : Option Addr) (len cap : Nat) (bs : List Nat) (hl : Sk.loadE d ≠ 0) : Calls Try.prog 10 #[.pointer (some ⟨b, 0, none⟩), .slice a len cap] w (DP w S b (Sk.commit d bs) (.int .i64 (Sk.commitE d bs))) := by
  have e0 : Sk.commitE0 d bs = Sk.loadE d := by unfold Sk.commitE0; rw [if_pos hl]
  have e1 : Sk.commit d bs = d := by unfold Sk.commit; rw [e0, if_neg hl]
  have e2 : Sk.commitE d bs = Sk.loadE d := by unfold Sk.commitE; rw [e0, if_neg hl]
  rw [e1, e2]
  have HC : Hid (Calls Try.prog 27 #[.pointer (some ⟨b, 0, none⟩)] w fun e w' => e = .returned (.tuple #[zst, .slice none 0 0, .int .i64 (Sk.loadE d)]) ∧ Below w.heap.size w w') := (load_any w S b d h).mono fun e w' hp => by
    obtain ⟨h1, h2⟩ := hp
    rcases h2 with ⟨_, h2⟩ | ⟨h2, _⟩
    · exact ⟨h2, h1⟩
    · exact absurd h2 hl
  have HQ : Hid (∀ w', Below w.heap.size w w' → DP w S b d (.int .i64 (Sk.loadE d)) (.returned (.int .i64 (Sk.loadE d))) w') := fun w' hb => (dp_same (h.later hb) _).base hb
  unfold zst at HC
  have hne : (Sk.loadE d != 0) = true := by simpa using hl
  generalize Sk.loadE d = LE at HC HQ hne ⊢
  clear h hl e0 e1 e2
  go_enter Try.func10, Try.ntmps10
  go_wp2_with fail
  refine HC.out.mono ?_
  clear HC
  rintro e w2 ⟨rfl, hb⟩
  have HB2 : Hid (Below w.heap.size w (w2.alloc (.cells #[.int .i64 0, .int .i64 0, .int .i64 0, .int .i64 0] 67))) := hb.trans ((below1 w2 _).mono hb.size)
  clear hb
  go_wp2_with fail
  go_ret
  exact HQ.out _ HB2.out
theorem nod_commit {w : World} {v : Value} (h : NoD w v) (a : Option Addr) (len cap : Nat) : Calls Try.prog 10 #[v, .slice a len cap] w fun e w' => e = .returned (.int .i64 1) ∧ Below w.heap.size w w' := by
  have HC := Lib.hid (nod_load h)
  unfold zst at HC
  clear h
  go_enter Try.func10, Try.ntmps10
  go_wp2_with fail
  refine HC.out.mono ?_
  clear HC
  rintro e w2 ⟨rfl, hb⟩
  have HB2 : Hid (Below w.heap.size w (w2.alloc (.cells #[.int .i64 0, .int .i64 0, .int .i64 0, .int .i64 0] 67))) := hb.trans ((below1 w2 _).mono hb.size)
  clear hb
  go_wp2_with fail
  go_ret
  exact ⟨rfl, HB2.out⟩

set_option maxRecDepth 100000 in
set_option maxHeartbeats 4000000 in
theorem commit_good (w : World) (S : Nat → Prop) (b : Nat) (d : Ek.Dk) (h : Dsk w S b d) (hS : ∀ k, S k → k < w.heap.size) (a : Option Addr) (len cap : Nat) (bs : List Nat) (hA : Arg w S a len cap bs) (hl : Sk.loadE d = 0) (hu : d.used + Sk.share d.n + 3 < 1000) : Calls Try.prog 10 #[.pointer (some ⟨b, 0, none⟩), .slice a len cap] w (DP w S b (Sk.commit d bs) (.int .i64 (Sk.commitE d bs))) := by
  have hok := h.ok
  have hF := Sk.fits_told (Ek.now_row hok 0).2
  change Sk.Fits (Sk.says d) at hF
  obtain ⟨hlo, hd, hn3⟩ := Sk.Loads.of hok hl
  have hsl : (Sk.says d).slot ≤ 1 := by obtain ⟨s, _, _, _, q, _⟩ := hlo; exact q
  have hE0 : Sk.commitE0 d bs = if (Sk.says d).gen = 4294967295 then 3 else if Sk.room d.n < bs.length then 7 else 0 := by
    unfold Sk.commitE0; rw [if_neg (by rw [hl]; simp)]
  have hlen : bs.length = len := by
    obtain ⟨a', len', cap', e, q1, _⟩ := hA.1
    injection e with e1 e2 e3; omega
  have hl48 : len ≤ 281474976710656 := (hA.1.len).2.1
  have HC : Hid (Calls Try.prog 27 #[.pointer (some ⟨b, 0, none⟩)] w fun e w' => (∃ a6 c6, e = .returned (.tuple #[sts (Sk.says d), .slice a6 (Sk.says d).size c6, .int .i64 0])) ∧ Below w.heap.size w w') := (load_any w S b d h).mono fun e w' hp => by
    obtain ⟨h1, h2⟩ := hp
    rcases h2 with ⟨h2, _⟩ | ⟨_, a6, c6, h2, _⟩
    · exact absurd hl h2
    · exact ⟨⟨a6, c6, h2⟩, h1⟩
  have HQ : Hid (∀ c, c ≠ 0 → Sk.commitE0 d bs = c → ∀ w', Below w.heap.size w w' → DP w S b (Sk.commit d bs) (.int .i64 (Sk.commitE d bs)) (.returned (.int .i64 c)) w') := fun c hc he w' hb => by
    have e1 : Sk.commit d bs = d := by unfold Sk.commit; rw [he, if_neg hc]
    have e2 : Sk.commitE d bs = c := by unfold Sk.commitE; rw [he, if_neg hc]
    rw [e1, e2]
    exact (dp_same (h.later hb) _).base hb
  by_cases hg : (Sk.says d).gen = 4294967295
  · have HQ2 := Lib.hid (HQ.out 3 (by decide) (by rw [hE0, if_pos hg]))
    have hge : (((Sk.says d).gen : Nat) : Int) = 4294967295 := by omega
    generalize Sk.says d = s at HC hge
    obtain ⟨g, sl, sz, sm⟩ := s
    unfold sts at HC
    dsimp only at HC hge
    clear h hS hA hl hu hok hF hlo hd hn3 hsl hE0 hlen HQ hg hl48
    have hg1 : ((g : Int) == 4294967295) = true := by rw [hge]; rfl
    clear hge
    go_enter Try.func10, Try.ntmps10
    go_wp2_with fail
    refine HC.out.mono ?_
    clear HC
    rintro e w2 ⟨⟨a6, c6, rfl⟩, hb⟩
    have HB2 : Hid (Below w.heap.size w (w2.alloc (.cells #[.int .i64 (g : Int), .int .i64 (sl : Int), .int .i64 (sz : Int), .int .i64 (sm : Int)] 67))) := hb.trans ((below1 w2 _).mono hb.size)
    have HS2 : Hid (Has (w2.alloc (.cells #[.int .i64 (g : Int), .int .i64 (sl : Int), .int .i64 (sz : Int), .int .i64 (sm : Int)] 67)) w2.heap.size (.cells #[.int .i64 (g : Int), .int .i64 (sl : Int), .int .i64 (sz : Int), .int .i64 (sm : Int)] 67 (0, 0))) := Has.new w2 _
    have q0 : (w2.alloc (.cells #[.int .i64 (g : Int), .int .i64 (sl : Int), .int .i64 (sz : Int), .int .i64 (sm : Int)] 67)).cell? ⟨w2.heap.size, 0, none⟩ = some (.int .i64 (g : Int)) := HS2.out.cell 0
    have q1 : (w2.alloc (.cells #[.int .i64 (g : Int), .int .i64 (sl : Int), .int .i64 (sz : Int), .int .i64 (sm : Int)] 67)).cell? ⟨w2.heap.size, 1, none⟩ = some (.int .i64 (sl : Int)) := HS2.out.cell 1
    clear hb
    go_wp2_with fail
    go_ret
    exact HQ2.out _ HB2.out
  · have HLEN : Hid (∀ wx, Below w.heap.size w wx → Calls Try.prog 28 #[.pointer (some ⟨b, 0, none⟩)] wx fun e w' => e = .returned (.int .i64 (d.n : Int)) ∧ wx = w') := fun wx hb => len_any wx S b d (h.later hb)
    have HROOM : Hid (∀ wx, Calls Try.prog 22 #[.int .i64 (d.n : Int)] wx fun e w' => e = .returned (.int .i64 ((Sk.room d.n : Nat) : Int)) ∧ wx = w') := fun wx => by have := zroom_any (d.n : Int) wx; rw [Sk.roomI_nat] at this; exact this
    by_cases hrm : Sk.room d.n < bs.length
    · have HQ2 := Lib.hid (HQ.out 7 (by decide) (by rw [hE0, if_neg hg, if_pos hrm]))
      have hge : (((Sk.says d).gen : Nat) : Int) ≠ 4294967295 := by omega
      rw [hlen] at hrm
      have hd0 : decide (((Sk.room d.n : Nat) : Int) < (len : Int)) = true := decide_eq_true (by omega)
      generalize Sk.room d.n = RM at HROOM hd0 hrm
      obtain ⟨N, hN⟩ : ∃ N, N = d.n := ⟨_, rfl⟩
      rw [← hN] at HLEN HROOM
      generalize Sk.says d = s at HC hge
      obtain ⟨g, sl, sz, sm⟩ := s
      unfold sts at HC
      dsimp only at HC hge
      have hg1 : ((g : Int) == 4294967295) = false := by simpa using hge
      clear h hS hA hl hu hok hF hlo hd hn3 hsl hE0 hlen HQ hg hge hN
      go_enter Try.func10, Try.ntmps10
      go_wp2_with fail
      refine HC.out.mono ?_
      clear HC
      rintro e w2 ⟨⟨a6, c6, rfl⟩, hb⟩
      have HB2 : Hid (Below w.heap.size w (w2.alloc (.cells #[.int .i64 (g : Int), .int .i64 (sl : Int), .int .i64 (sz : Int), .int .i64 (sm : Int)] 67))) := hb.trans ((below1 w2 _).mono hb.size)
      have HS2 : Hid (Has (w2.alloc (.cells #[.int .i64 (g : Int), .int .i64 (sl : Int), .int .i64 (sz : Int), .int .i64 (sm : Int)] 67)) w2.heap.size (.cells #[.int .i64 (g : Int), .int .i64 (sl : Int), .int .i64 (sz : Int), .int .i64 (sm : Int)] 67 (0, 0))) := Has.new w2 _
      have q0 : (w2.alloc (.cells #[.int .i64 (g : Int), .int .i64 (sl : Int), .int .i64 (sz : Int), .int .i64 (sm : Int)] 67)).cell? ⟨w2.heap.size, 0, none⟩ = some (.int .i64 (g : Int)) := HS2.out.cell 0
      have q1 : (w2.alloc (.cells #[.int .i64 (g : Int), .int .i64 (sl : Int), .int .i64 (sz : Int), .int .i64 (sm : Int)] 67)).cell? ⟨w2.heap.size, 1, none⟩ = some (.int .i64 (sl : Int)) := HS2.out.cell 1
      clear hb
      go_wp2_with fail
      refine (HLEN.out _ HB2.out).mono ?_
      rintro e w' ⟨rfl, rfl⟩
      go_wp2_with fail
      refine (HROOM.out _).mono ?_
      rintro e w' ⟨rfl, rfl⟩
      go_wp2_with fail
      go_ret
      exact HQ2.out _ HB2.out
    · have he0 : Sk.commitE0 d bs = 0 := by rw [hE0, if_neg hg, if_neg hrm]
      have hcm : Sk.commit d bs = Sk.runs d (Sk.commitS d bs) := by unfold Sk.commit; rw [if_pos he0]
      have hce : Sk.commitE d bs = Sk.runsE d (Sk.commitS d bs) := by unfold Sk.commitE; rw [if_pos he0]
      have hpc : Sk.pieces bs ≤ Sk.share d.n ∧ len ≤ 1048576 := by
        unfold Sk.pieces
        unfold Sk.room at hrm
        split at hrm
        · omega
        · omega
      have hsum : Cr.sum 0 bs < 4294967296 := Cr.sum_lt 0 bs (by decide) (hA.1.facts8)
      have HSM : Hid (∀ wx, Below w.heap.size w wx → Calls Try.prog 29 #[.slice a len cap] wx fun e w' => e = .returned (.int .u32 ((Cr.sum 0 bs : Nat) : Int)) ∧ wx = w') := fun wx hb => sum_any _ bs wx (hA.1.later hb)
      have HFILL : Hid (∀ wx, Below w.heap.size w wx → Calls Try.prog 32 #[.pointer (some ⟨b, 0, none⟩), .int .i64 ((1 - (Sk.says d).slot : Nat) : Int), .slice a len cap] wx (FillPost wx b d (1 - (Sk.says d).slot) (fun k => 0 < len ∧ ∃ off spot, a = some ⟨k, off, spot⟩) bs)) := fun wx hb =>
        fillz_any wx S b d (h.later hb) (1 - (Sk.says d).slot) (by omega) a len cap bs (hA.1.later hb) hA.2.1 hpc.2 _ (fun hp g off spot e => ⟨hp, off, spot, e⟩)
      have HSEAL : Hid (∀ wx, Calls Try.prog 34 #[.pointer (some ⟨b, 0, none⟩), .agg #[.int .i64 (((Sk.says d).gen + 1 : Nat) : Int), .int .i64 ((1 - (Sk.says d).slot : Nat) : Int), .int .i64 (len : Int), .int .i64 ((Cr.sum 0 bs : Nat) : Int)]] wx fun e w' => ∃ sv, e = .returned sv ∧ StSl w' (fun k => wx.heap.size ≤ k ∧ k < w'.heap.size) b sv (Sk.shut ⟨(Sk.says d).gen + 1, 1 - (Sk.says d).slot, len, Cr.sum 0 bs⟩) ∧ Below wx.heap.size wx w') := fun wx =>
        seal_any wx b _ _ _ _ ⟨by have := hF.1; show _ + 1 < _; omega, by show 1 - _ < _; omega, by show len < _; omega, hsum⟩
      have HRUN : Hid (∀ (W wx : World) (sv : Value), Below w.heap.size w W → Carry (fun k => 0 < len ∧ ∃ off spot, a = some ⟨k, off, spot⟩) W wx b sv (Sk.fill d.n (1 - (Sk.says d).slot) bs ++ [Sk.Step.sync] ++ Sk.shut ⟨(Sk.says d).gen + 1, 1 - (Sk.says d).slot, len, Cr.sum 0 bs⟩) → Calls Try.prog 30 #[sv] wx (DP wx S b (Sk.commit d bs) (.int .i64 (Sk.commitE d bs)))) := fun W wx sv hb hc => by
        have hxs : Sk.commitS d bs = Sk.fill d.n (1 - (Sk.says d).slot) bs ++ [Sk.Step.sync] ++ Sk.shut ⟨(Sk.says d).gen + 1, 1 - (Sk.says d).slot, len, Cr.sum 0 bs⟩ := by unfold Sk.commitS Sk.next; rw [hlen]
        rw [hcm, hce, hxs]
        have hbx := hb.trans (hc.2.mono hb.size)
        refine run_sl (h.later hbx) (fun k hk => Nat.lt_of_lt_of_le (hS k hk) hbx.size) (E := fun k => ((0 < len ∧ ∃ off spot, a = some ⟨k, off, spot⟩) ∨ W.heap.size ≤ k) ∧ k < wx.heap.size) (fun k hk => ⟨fun q => ?_, hk.2⟩) ?_ hc.1 ?_
        · rcases hk.1 with ⟨hp, off, spot, e⟩ | e
          · exact (hA.2.2 hp k off spot e).1 q
          · have := hS k q; have := hb.size; omega
        · simp [Sk.shut]
        · have : (Sk.fill d.n (1 - (Sk.says d).slot) bs).length = Sk.pieces bs := Sk.fillTo_length _ _ _ _
          rw [List.length_append, List.length_append, this]
          show d.used + (Sk.pieces bs + 1 + 2) < 1000
          omega
      have HXL : Hid (0 < (Sk.fill d.n (1 - (Sk.says d).slot) bs ++ [Sk.Step.sync] ++ Sk.shut ⟨(Sk.says d).gen + 1, 1 - (Sk.says d).slot, len, Cr.sum 0 bs⟩).length ∧ (Sk.fill d.n (1 - (Sk.says d).slot) bs ++ [Sk.Step.sync] ++ Sk.shut ⟨(Sk.says d).gen + 1, 1 - (Sk.says d).slot, len, Cr.sum 0 bs⟩).length ≤ 100000) := by
        have : (Sk.fill d.n (1 - (Sk.says d).slot) bs).length = Sk.pieces bs := Sk.fillTo_length _ _ _ _
        rw [List.length_append, List.length_append, this]
        show 0 < Sk.pieces bs + 1 + 2 ∧ Sk.pieces bs + 1 + 2 ≤ 100000
        omega
      have HSN : Hid (∀ k, w.heap.size ≤ k → ¬ S k) := fun k hk q => by have := hS k q; omega
      have hge : (((Sk.says d).gen : Nat) : Int) ≠ 4294967295 := by omega
      have hgf := hF.1
      rw [hlen] at hrm
      have hd0 : decide (((Sk.room d.n : Nat) : Int) < (len : Int)) = false := decide_eq_false (by omega)
      have hlb := hpc.2
      generalize Sk.room d.n = RM at HROOM hd0 hrm
      obtain ⟨XF, hXF⟩ : ∃ x, x = Sk.fill d.n (1 - (Sk.says d).slot) bs := ⟨_, rfl⟩
      have HXF := Lib.hid hXF
      obtain ⟨XS, hXS⟩ : ∃ x, x = Sk.shut ⟨(Sk.says d).gen + 1, 1 - (Sk.says d).slot, len, Cr.sum 0 bs⟩ := ⟨_, rfl⟩
      rw [← hXF, ← hXS] at HRUN HXL
      rw [← hXS] at HSEAL
      have HF2 : Hid (∀ wx, Below w.heap.size w wx → Calls Try.prog 32 #[.pointer (some ⟨b, 0, none⟩), .int .i64 ((1 - (Sk.says d).slot : Nat) : Int), .slice a len cap] wx fun e w' => ∃ sv, e = .returned sv ∧ StSl w' (fun k => ((0 < len ∧ ∃ off spot, a = some ⟨k, off, spot⟩) ∨ wx.heap.size ≤ k) ∧ k < w'.heap.size) b sv XF ∧ Below wx.heap.size wx w') := fun wx hb => by
        rw [hXF]; exact HFILL.out wx hb
      obtain ⟨N, hN⟩ : ∃ N, N = d.n := ⟨_, rfl⟩
      rw [← hN] at HLEN HROOM
      generalize Sk.says d = s at HC hge hgf HSEAL HF2 hsl
      generalize Cr.sum 0 bs = Q at hsum HSM HSEAL
      obtain ⟨g, sl, sz, sm⟩ := s
      unfold sts at HC
      dsimp only at HC hge hgf HSEAL HF2 hsl
      have hg1 : ((g : Int) == 4294967295) = false := by simpa using hge
      obtain ⟨so, hso⟩ : ∃ so, so = 1 - sl := ⟨_, rfl⟩
      obtain ⟨gn, hgn⟩ : ∃ gn, gn = g + 1 := ⟨_, rfl⟩
      have jg : (g : Int) + 1 = (gn : Int) := by omega
      have hgn2 : gn ≤ 4294967295 := by omega
      have js : (1 : Int) - (sl : Int) = (so : Int) := by omega
      rw [← hso] at HSEAL HF2
      rw [← hgn] at HSEAL
      have hso1 : so ≤ 1 := by omega
      generalize Sk.commit d bs = CD at HRUN HQ ⊢
      generalize Sk.commitE d bs = CE at HRUN HQ ⊢
      have hq1 : (Q : Int) < 4294967296 := by omega
      have hwr := wrap_small Q hsum
      have hwg := wrap_small gn (by omega)
      have hws := wrap_small so (by omega)
      clear h hS hA hl hu hok hF hlo hd hn3 hE0 hlen HQ hg hge hN he0 hcm hce hpc HFILL hXF hXS HXF hso hgn
      go_enter Try.func10, Try.ntmps10
      go_wp2_with fail
      refine HC.out.mono ?_
      clear HC
      rintro e w2 ⟨⟨a6, c6, rfl⟩, hb⟩
      have HB2 : Hid (Below w.heap.size w (w2.alloc (.cells #[.int .i64 (g : Int), .int .i64 (sl : Int), .int .i64 (sz : Int), .int .i64 (sm : Int)] 67))) := hb.trans ((below1 w2 _).mono hb.size)
      have HS2 : Hid (Has (w2.alloc (.cells #[.int .i64 (g : Int), .int .i64 (sl : Int), .int .i64 (sz : Int), .int .i64 (sm : Int)] 67)) w2.heap.size (.cells #[.int .i64 (g : Int), .int .i64 (sl : Int), .int .i64 (sz : Int), .int .i64 (sm : Int)] 67 (0, 0))) := Has.new w2 _
      have q0 : (w2.alloc (.cells #[.int .i64 (g : Int), .int .i64 (sl : Int), .int .i64 (sz : Int), .int .i64 (sm : Int)] 67)).cell? ⟨w2.heap.size, 0, none⟩ = some (.int .i64 (g : Int)) := HS2.out.cell 0
      have q1 : (w2.alloc (.cells #[.int .i64 (g : Int), .int .i64 (sl : Int), .int .i64 (sz : Int), .int .i64 (sm : Int)] 67)).cell? ⟨w2.heap.size, 1, none⟩ = some (.int .i64 (sl : Int)) := HS2.out.cell 1
      clear hb
      go_wp2_with fail
      refine (HLEN.out _ HB2.out).mono ?_
      rintro e w' ⟨rfl, rfl⟩
      go_wp2_with fail
      refine (HROOM.out _).mono ?_
      rintro e w' ⟨rfl, rfl⟩
      go_wp2_with fail
      generalize hW : w2.alloc (.cells #[.int .i64 (g : Int), .int .i64 (sl : Int), .int .i64 (sz : Int), .int .i64 (sm : Int)] 67) = W at HB2 HS2 q0 q1 ⊢
      have HT5 : Hid (w2.heap.size < W.heap.size) := HS2.out.lt
      have L0 : ∀ wx, Below W.heap.size W wx → wx.cell? ⟨w2.heap.size, 0, none⟩ = some (.int .i64 (g : Int)) := fun wx hb => (hb.cell (p := ⟨w2.heap.size, 0, none⟩) HT5.out).trans q0
      have L1 : ∀ wx, Below W.heap.size W wx → wx.cell? ⟨w2.heap.size, 1, none⟩ = some (.int .i64 (sl : Int)) := fun wx hb => (hb.cell (p := ⟨w2.heap.size, 1, none⟩) HT5.out).trans q1
      have KB0 : Hid (Below W.heap.size W W.drew) := below_drewN (Below.refl _ _) 1
      have KB1 : Hid (Below W.heap.size W (W.drew.alloc (.cells #[.int .i64 0, .int .i64 0, .int .i64 0, .int .i64 0] 67))) := KB0.out.alloc (Nat.le_refl _) _
      have KB2 : Hid (Below W.heap.size W (W.drew.alloc (.cells #[.int .i64 (gn : Int), .int .i64 (so : Int), .int .i64 (len : Int), .int .i64 (Q : Int)] 67))) := KB0.out.alloc (Nat.le_refl _) _
      clear hW q0 q1 HS2 HLEN HROOM hd0 hrm
      refine region_one (S := fun wx => Below W.heap.size W wx) { tmps := #[.pointer (some ⟨b, 0, none⟩), .slice a len cap, undef, undef, .int .i64 0, .pointer (some ⟨w2.heap.size, 0, none⟩), .slice a6 sz c6, .int .i64 0, .pointer (some ⟨W.heap.size, 0, none⟩), .tuple #[.agg #[.int .i64 (g : Int), .int .i64 (sl : Int), .int .i64 (sz : Int), .int .i64 (sm : Int)], .slice a6 sz c6, .int .i64 0], .pointer (some ⟨b, 0, none⟩), .tuple #[.agg #[.int .i64 (g : Int), .int .i64 (sl : Int), .int .i64 (sz : Int), .int .i64 (sm : Int)], .slice a6 sz c6, .int .i64 0], .agg #[.int .i64 (g : Int), .int .i64 (sl : Int), .int .i64 (sz : Int), .int .i64 (sm : Int)], .slice a6 sz c6, .int .i64 0, .bool false, .int .i64 0, .bool false, undef, .bool false, .pointer (some ⟨w2.heap.size, 0, none⟩), .int .i64 (g : Int), .bool false, .bool false, .slice a len cap, .int .i64 (len : Int), .pointer (some ⟨b, 0, none⟩), .int .i64 (N : Int), .int .i64 (RM : Int), .bool false, .pointer (some ⟨w2.heap.size, 0, none⟩), .int .i64 (g : Int), .int .i64 (gn : Int), .pointer (some ⟨w2.heap.size, 1, none⟩), .int .i64 (sl : Int), .int .i64 (so : Int), .slice a len cap, .int .i64 (len : Int), .slice a len cap, .int .u32 (Q : Int), .int .i64 (Q : Int), .agg #[.int .i64 (gn : Int), .int .i64 (so : Int), .int .i64 (len : Int), .int .i64 (Q : Int)], undef, undef, undef, undef, undef, undef, undef, undef, undef, undef, undef, undef, undef, undef], defers := [] } (W.drew.alloc (.cells #[.int .i64 (gn : Int), .int .i64 (so : Int), .int .i64 (len : Int), .int .i64 (Q : Int)] 67)) (by kernel_rfl) KB0.out (fun Q' HQ' => ?_) ?tail
      case tail =>
        clear KB0 KB1 L0 L1
        have HB8 : Hid (Below w.heap.size w (W.drew.alloc (.cells #[.int .i64 (gn : Int), .int .i64 (so : Int), .int .i64 (len : Int), .int .i64 (Q : Int)] 67))) := HB2.out.trans (KB2.out.mono HB2.out.size)
        have KS : Hid (Has (W.drew.alloc (.cells #[.int .i64 (gn : Int), .int .i64 (so : Int), .int .i64 (len : Int), .int .i64 (Q : Int)] 67)) W.heap.size (.cells #[.int .i64 (gn : Int), .int .i64 (so : Int), .int .i64 (len : Int), .int .i64 (Q : Int)] 67 (0, 0))) := Has.new W.drew _
        have HT8 : Hid (w.heap.size ≤ W.heap.size) := HB2.out.size
        generalize W.drew.alloc (.cells #[.int .i64 (gn : Int), .int .i64 (so : Int), .int .i64 (len : Int), .int .i64 (Q : Int)] 67) = W8 at HB8 KS ⊢
        clear KB2 HB2
        generalize W.heap.size = T8 at KS HT8 ⊢
        go_wp2_with fail
        refine region_held_both (S := fun wx => Has wx T8 (.cells #[.int .i64 (gn : Int), .int .i64 (so : Int), .int .i64 (len : Int), .int .i64 (Q : Int)] 67 (0, 0))) (by kernel_rfl) KS.out ?_
        change wpAnyH _ _ _ _ _ 15 (Array.replicate 15 false) _ _
        have HB9 : Hid (Below w.heap.size w W8.drew) := below_drewN HB8.out 1
        have KS9 : Hid (Has W8.drew T8 (.cells #[.int .i64 (gn : Int), .int .i64 (so : Int), .int .i64 (len : Int), .int .i64 (Q : Int)] 67 (0, 0))) := KS.out
        generalize W8.drew = W9 at HB9 KS9 ⊢
        clear HB8 KS
        have HBX : Hid (Below W9.heap.size W9 W9) := Below.refl _ _
        have KX := KS9
        refine wpAnyH_take (i := 0) (v := ?_) rfl (by kernel_rfl) (by kernel_rfl) (by kernel_rfl) (fun _ _ _ h => h) (Or.inl ⟨rfl, ?hy0⟩) KX.out ?_
        case hy0 => intro w' hw'; clear hw'; go_simp; first | done | rfl
        (try simp only [Act.put, List.getElem_toArray, List.getElem_cons_zero, List.setIfInBounds_toArray, List.set_cons_zero, List.set_cons_succ])
        refine wpAnyH_take (i := 1) (v := ?_) rfl (by kernel_rfl) (by kernel_rfl) (by kernel_rfl) (fun _ _ _ h => h) (Or.inl ⟨rfl, ?hy1⟩) KX.out ?_
        case hy1 => intro w' hw'; clear hw'; go_simp; first | done | rfl
        (try simp only [Act.put, List.getElem_toArray, List.getElem_cons_zero, List.getElem_cons_succ, List.setIfInBounds_toArray, List.set_cons_zero, List.set_cons_succ])
        refine wpAnyH_take (i := 2) (v := (.int .i64 (so : Int))) rfl (by kernel_rfl) (by kernel_rfl) (by kernel_rfl) (fun _ _ _ h => h) (Or.inl ⟨rfl, ?hy2⟩) KX.out ?_
        case hy2 => intro w' hw'; have hw' : Has w' T8 (.cells #[.int .i64 (gn : Int), .int .i64 (so : Int), .int .i64 (len : Int), .int .i64 (Q : Int)] 67 (0, 0)) := hw'; have q1 := hw'.cell 1; clear hw'; go_simp; first | done | rfl
        (try simp only [Act.put, List.getElem_toArray, List.getElem_cons_zero, List.getElem_cons_succ, List.setIfInBounds_toArray, List.set_cons_zero, List.set_cons_succ])
        refine wpAnyH_take (i := 3) (v := ?_) rfl (by kernel_rfl) (by kernel_rfl) (by kernel_rfl) (fun _ _ _ h => h) (Or.inl ⟨rfl, ?hy3⟩) KX.out ?_
        case hy3 => intro w' hw'; clear hw'; go_simp; first | done | rfl
        (try simp only [Act.put, List.getElem_toArray, List.getElem_cons_zero, List.getElem_cons_succ, List.setIfInBounds_toArray, List.set_cons_zero, List.set_cons_succ])
        refine wpAnyH_take (i := 5) (v := ?_) rfl (by kernel_rfl) (by kernel_rfl) (by kernel_rfl) (fun _ _ _ h => h) (Or.inl ⟨rfl, ?hy5⟩) KX.out ?_
        case hy5 => intro w' hw'; clear hw'; go_simp; first | done | rfl
        (try simp only [Act.put, List.getElem_toArray, List.getElem_cons_zero, List.getElem_cons_succ, List.setIfInBounds_toArray, List.set_cons_zero, List.set_cons_succ])
        refine wpAnyH_take (i := 6) (v := ?_) rfl (by kernel_rfl) (by kernel_rfl) (by kernel_rfl) (fun _ _ _ h => h) (Or.inl ⟨rfl, ?hy6⟩) KX.out ?_
        case hy6 => intro w' hw'; clear hw'; go_simp; first | done | rfl
        (try simp only [Act.put, List.getElem_toArray, List.getElem_cons_zero, List.getElem_cons_succ, List.setIfInBounds_toArray, List.set_cons_zero, List.set_cons_succ])
        refine wpAnyH_take (i := 8) (v := ?_) rfl (by kernel_rfl) (by kernel_rfl) (by kernel_rfl) (fun _ _ _ h => h) (Or.inl ⟨rfl, ?hy8⟩) KX.out ?_
        case hy8 => intro w' hw'; clear hw'; go_simp; first | done | rfl
        (try simp only [Act.put, List.getElem_toArray, List.getElem_cons_zero, List.getElem_cons_succ, List.setIfInBounds_toArray, List.set_cons_zero, List.set_cons_succ])
        refine wpAnyH_take (i := 9) (v := (.agg #[.int .i64 (gn : Int), .int .i64 (so : Int), .int .i64 (len : Int), .int .i64 (Q : Int)])) rfl (by kernel_rfl) (by kernel_rfl) (by kernel_rfl) (fun _ _ _ h => h) (Or.inl ⟨rfl, ?hy9⟩) KX.out ?_
        case hy9 => intro w' hw'; have hw' : Has w' T8 (.cells #[.int .i64 (gn : Int), .int .i64 (so : Int), .int .i64 (len : Int), .int .i64 (Q : Int)] 67 (0, 0)) := hw'; have q0 := hw'.cell 0; have q1 := hw'.cell 1; have q2 := hw'.cell 2; have q3 := hw'.cell 3; clear hw'; go_simp; first | done | rfl
        (try simp only [Act.put, List.getElem_toArray, List.getElem_cons_zero, List.getElem_cons_succ, List.setIfInBounds_toArray, List.set_cons_zero, List.set_cons_succ])
        refine wpAnyH_ready (rs := [4, 7]) (by kernel_rfl) (by simp) ?_
        refine AllReadyH.cons rfl (fun K hK => ?_) (AllReadyH.cons rfl (fun K hK => ?_) AllReadyH.nil)
        · go_simp
          refine (HF2.out W9 (HB9.out.trans (HBX.out.mono HB9.out.size))).mono ?_
          rintro e w11a ⟨sv, rfl, hst, hbx⟩
          dsimp only
          have C1 : Hid (Carry (fun k => 0 < len ∧ ∃ off spot, a = some ⟨k, off, spot⟩) W9 w11a b sv XF) := ⟨hst.mono (fun k hk => ⟨hk.1.elim Or.inl (fun q => Or.inr (Nat.le_trans HBX.out.size q)), hk.2⟩), HBX.out.trans (hbx.mono HBX.out.size)⟩
          obtain ⟨fa, fc, rfl⟩ := C1.out.shape
          have HBY : Hid (Below W9.heap.size W9 w11a) := HBX.out.trans (hbx.mono HBX.out.size)
          have KY : Hid (Has w11a T8 (.cells #[.int .i64 (gn : Int), .int .i64 (so : Int), .int .i64 (len : Int), .int .i64 (Q : Int)] 67 (0, 0))) := Has.later KX.out hbx
          clear hbx HBX KX hst
          have HBX := HBY
          have KX := KY
          clear HBY KY
          refine hK.out _ _ KX.out (fun _ => ?_)
          clear hK K
          (try simp only [Act.put, List.getElem_toArray, List.getElem_cons_zero, List.getElem_cons_succ, List.setIfInBounds_toArray, List.set_cons_zero, List.set_cons_succ])
          refine wpAnyH_ready (rs := [7, 10]) (by kernel_rfl) (by simp) ?_
          refine AllReadyH.cons rfl (fun K hK => ?_) (AllReadyH.cons rfl (fun K hK => ?_) AllReadyH.nil)
          · go_simp
            have hbx := below1 w11a (.cells #[.func (.func 33) #[.pointer (some ⟨b, 0, none⟩)] #[]] 77)
            have hgs := Has.new w11a (.cells #[.func (.func 33) #[.pointer (some ⟨b, 0, none⟩)] #[]] 77)
            have HBY : Hid (Below W9.heap.size W9 (w11a.alloc (.cells #[.func (.func 33) #[.pointer (some ⟨b, 0, none⟩)] #[]] 77))) := HBX.out.trans (hbx.mono HBX.out.size)
            have KY : Hid (Has (w11a.alloc (.cells #[.func (.func 33) #[.pointer (some ⟨b, 0, none⟩)] #[]] 77)) T8 (.cells #[.int .i64 (gn : Int), .int .i64 (so : Int), .int .i64 (len : Int), .int .i64 (Q : Int)] 67 (0, 0))) := Has.later KX.out hbx
            have D1 := Lib.hid (C1.out.later hbx)
            have C2 : Hid (Carry (fun k => 0 < len ∧ ∃ off spot, a = some ⟨k, off, spot⟩) W9 (w11a.alloc (.cells #[.func (.func 33) #[.pointer (some ⟨b, 0, none⟩)] #[]] 77)) b (.slice (some ⟨w11a.heap.size, 0, none⟩) 1 1) [Sk.Step.sync]) := carry_sync HBY.out HBX.out.size hgs
            clear hbx HBX KX C1 hgs
            have HBX := HBY
            have KX := KY
            have C1 := D1
            clear HBY KY D1
            generalize w11a.alloc (.cells #[.func (.func 33) #[.pointer (some ⟨b, 0, none⟩)] #[]] 77) = w12a at HBX KX C2 C1 ⊢
            generalize w11a.heap.size = gs at C2 ⊢
            refine hK.out _ _ KX.out (fun _ => ?_)
            clear hK K
            (try simp only [Act.put, List.getElem_toArray, List.getElem_cons_zero, List.getElem_cons_succ, List.setIfInBounds_toArray, List.set_cons_zero, List.set_cons_succ])
            refine wpAnyH_ready (rs := [10]) (by kernel_rfl) (by simp) ?_
            refine AllReadyH.cons rfl (fun K hK => ?_) AllReadyH.nil
            go_simp
            refine (HSEAL.out w12a).mono ?_
            rintro e w13a ⟨sv, rfl, hst, hbx⟩
            dsimp only
            have C3 : Hid (Carry (fun k => 0 < len ∧ ∃ off spot, a = some ⟨k, off, spot⟩) W9 w13a b sv XS) := ⟨hst.mono (fun k hk => ⟨Or.inr (Nat.le_trans HBX.out.size hk.1), hk.2⟩), HBX.out.trans (hbx.mono HBX.out.size)⟩
            obtain ⟨ga, gc, rfl⟩ := C3.out.shape
            have HBY : Hid (Below W9.heap.size W9 w13a) := HBX.out.trans (hbx.mono HBX.out.size)
            have KY : Hid (Has w13a T8 (.cells #[.int .i64 (gn : Int), .int .i64 (so : Int), .int .i64 (len : Int), .int .i64 (Q : Int)] 67 (0, 0))) := Has.later KX.out hbx
            have D1 := Lib.hid (C1.out.later hbx)
            have D2 := Lib.hid (C2.out.later hbx)
            clear hbx HBX KX C1 C2 hst
            have HBX := HBY
            have KX := KY
            have C1 := D1
            have C2 := D2
            clear HBY KY D1 D2
            refine hK.out _ _ KX.out (fun _ => ?_)
            clear hK K
            (try simp only [Act.put, List.getElem_toArray, List.getElem_cons_zero, List.getElem_cons_succ, List.setIfInBounds_toArray, List.set_cons_zero, List.set_cons_succ])
            refine wpAnyH_ready (rs := [11]) (by kernel_rfl) (by simp) ?_
            refine AllReadyH.cons rfl (fun K hK => ?_) AllReadyH.nil
            go_simp
            have hbx := below1 w13a (.cells #[.slice fa XF.length fc, .slice (some ⟨gs, 0, none⟩) 1 1, .slice ga XS.length gc] 74)
            have hgr := Has.new w13a (.cells #[.slice fa XF.length fc, .slice (some ⟨gs, 0, none⟩) 1 1, .slice ga XS.length gc] 74)
            have HBY : Hid (Below W9.heap.size W9 (w13a.alloc (.cells #[.slice fa XF.length fc, .slice (some ⟨gs, 0, none⟩) 1 1, .slice ga XS.length gc] 74))) := HBX.out.trans (hbx.mono HBX.out.size)
            have KY : Hid (Has (w13a.alloc (.cells #[.slice fa XF.length fc, .slice (some ⟨gs, 0, none⟩) 1 1, .slice ga XS.length gc] 74)) T8 (.cells #[.int .i64 (gn : Int), .int .i64 (so : Int), .int .i64 (len : Int), .int .i64 (Q : Int)] 67 (0, 0))) := Has.later KX.out hbx
            have D1 := Lib.hid (C1.out.later hbx)
            have D2 := Lib.hid (C2.out.later hbx)
            have D3 := Lib.hid (C3.out.later hbx)
            have HR := Lib.hid hgr
            clear hbx HBX KX C1 C2 C3 hgr
            have HBX := HBY
            have KX := KY
            have C1 := D1
            have C2 := D2
            have C3 := D3
            clear HBY KY D1 D2 D3
            generalize w13a.alloc (.cells #[.slice fa XF.length fc, .slice (some ⟨gs, 0, none⟩) 1 1, .slice ga XS.length gc] 74) = wR at HBX KX C1 C2 C3 HR ⊢
            generalize w13a.heap.size = gR at HR ⊢
            refine hK.out _ _ KX.out (fun _ => ?_)
            clear hK K
            (try simp only [Act.put, List.getElem_toArray, List.getElem_cons_zero, List.getElem_cons_succ, List.setIfInBounds_toArray, List.set_cons_zero, List.set_cons_succ])
            refine wpAnyH_ready (rs := [12]) (by kernel_rfl) (by simp) ?_
            refine AllReadyH.cons rfl (fun K hK => ?_) AllReadyH.nil
            go_simp
            have hcc := concat_carry C1.out C2.out C3.out HXL.out.1 HXL.out.2 HR.out
            refine hcc.mono ?_
            clear hcc
            rintro e wS ⟨sv, rfl, hst, hbx⟩
            dsimp only
            obtain ⟨ra, rc, rfl⟩ := hst.shape
            have C4 := Lib.hid hst
            clear hst
            generalize (XF ++ [Sk.Step.sync] ++ XS).length = LX at C4 ⊢
            have HBY : Hid (Below W9.heap.size W9 wS) := HBX.out.trans (hbx.mono HBX.out.size)
            have KY : Hid (Has wS T8 (.cells #[.int .i64 (gn : Int), .int .i64 (so : Int), .int .i64 (len : Int), .int .i64 (Q : Int)] 67 (0, 0))) := Has.later KX.out hbx
            clear hbx HBX KX HR C1 C2 C3
            have HBX := HBY
            have KX := KY
            clear HBY KY
            refine hK.out _ _ KX.out (fun _ => ?_)
            clear hK K
            (try simp only [Act.put, List.getElem_toArray, List.getElem_cons_zero, List.getElem_cons_succ, List.setIfInBounds_toArray, List.set_cons_zero, List.set_cons_succ])
            refine wpAnyH_ready (rs := [13]) (by kernel_rfl) (by simp) ?_
            refine AllReadyH.cons rfl (fun K hK => ?_) AllReadyH.nil
            go_simp
            have hrr := HRUN.out W9 wS _ HB9.out C4.out
            refine hrr.mono ?_
            clear hrr
            rintro e wF hq
            have he := hq.1
            subst he
            dsimp only
            have KF : Hid (Has wF T8 (.cells #[.int .i64 (gn : Int), .int .i64 (so : Int), .int .i64 (len : Int), .int .i64 (Q : Int)] 67 (0, 0))) := by
              obtain ⟨_, S', _, ht, _⟩ := hq
              exact (ht.block T8 KX.out.lt (HSN.out T8 HT8.out)).trans KX.out
            have HQF : Hid (DP w S b CD (.int .i64 CE) (.returned (.int .i64 CE)) wF) := hq.base (HB9.out.trans (HBX.out.mono HB9.out.size))
            clear hq HBX KX C4
            refine hK.out _ _ KF.out (fun _ => ?_)
            clear hK K
            (try simp only [Act.put, List.getElem_toArray, List.getElem_cons_zero, List.getElem_cons_succ, List.setIfInBounds_toArray, List.set_cons_zero, List.set_cons_succ])
            refine wpAnyH_take (i := 14) (v := ?_) rfl (by kernel_rfl) (by kernel_rfl) (by kernel_rfl) (fun _ _ _ h => h) (Or.inl ⟨rfl, ?hy14⟩) KF.out ?_
            case hy14 => intro w' hw'; clear hw'; go_simp; first | done | rfl
            (try simp only [Act.put, List.getElem_toArray, List.getElem_cons_zero, List.getElem_cons_succ, List.setIfInBounds_toArray, List.set_cons_zero, List.set_cons_succ])
            refine wpAnyH_done (by kernel_rfl) ?_ _
            refine NoBoth.normal ?_
            go_wp2_with fail
            go_ret
            exact HQF.out
          · go_simp
            refine (HSEAL.out w11a).mono ?_
            rintro e w12b ⟨sv, rfl, hst, hbx⟩
            dsimp only
            have C3 : Hid (Carry (fun k => 0 < len ∧ ∃ off spot, a = some ⟨k, off, spot⟩) W9 w12b b sv XS) := ⟨hst.mono (fun k hk => ⟨Or.inr (Nat.le_trans HBX.out.size hk.1), hk.2⟩), HBX.out.trans (hbx.mono HBX.out.size)⟩
            obtain ⟨ga, gc, rfl⟩ := C3.out.shape
            have HBY : Hid (Below W9.heap.size W9 w12b) := HBX.out.trans (hbx.mono HBX.out.size)
            have KY : Hid (Has w12b T8 (.cells #[.int .i64 (gn : Int), .int .i64 (so : Int), .int .i64 (len : Int), .int .i64 (Q : Int)] 67 (0, 0))) := Has.later KX.out hbx
            have D1 := Lib.hid (C1.out.later hbx)
            clear hbx HBX KX C1 hst
            have HBX := HBY
            have KX := KY
            have C1 := D1
            clear HBY KY D1
            refine hK.out _ _ KX.out (fun _ => ?_)
            clear hK K
            (try simp only [Act.put, List.getElem_toArray, List.getElem_cons_zero, List.getElem_cons_succ, List.setIfInBounds_toArray, List.set_cons_zero, List.set_cons_succ])
            refine wpAnyH_ready (rs := [7]) (by kernel_rfl) (by simp) ?_
            refine AllReadyH.cons rfl (fun K hK => ?_) AllReadyH.nil
            go_simp
            have hbx := below1 w12b (.cells #[.func (.func 33) #[.pointer (some ⟨b, 0, none⟩)] #[]] 77)
            have hgs := Has.new w12b (.cells #[.func (.func 33) #[.pointer (some ⟨b, 0, none⟩)] #[]] 77)
            have HBY : Hid (Below W9.heap.size W9 (w12b.alloc (.cells #[.func (.func 33) #[.pointer (some ⟨b, 0, none⟩)] #[]] 77))) := HBX.out.trans (hbx.mono HBX.out.size)
            have KY : Hid (Has (w12b.alloc (.cells #[.func (.func 33) #[.pointer (some ⟨b, 0, none⟩)] #[]] 77)) T8 (.cells #[.int .i64 (gn : Int), .int .i64 (so : Int), .int .i64 (len : Int), .int .i64 (Q : Int)] 67 (0, 0))) := Has.later KX.out hbx
            have D1 := Lib.hid (C1.out.later hbx)
            have D3 := Lib.hid (C3.out.later hbx)
            have C2 : Hid (Carry (fun k => 0 < len ∧ ∃ off spot, a = some ⟨k, off, spot⟩) W9 (w12b.alloc (.cells #[.func (.func 33) #[.pointer (some ⟨b, 0, none⟩)] #[]] 77)) b (.slice (some ⟨w12b.heap.size, 0, none⟩) 1 1) [Sk.Step.sync]) := carry_sync HBY.out HBX.out.size hgs
            clear hbx HBX KX C1 C3 hgs
            have HBX := HBY
            have KX := KY
            have C1 := D1
            have C3 := D3
            clear HBY KY D1 D3
            generalize w12b.alloc (.cells #[.func (.func 33) #[.pointer (some ⟨b, 0, none⟩)] #[]] 77) = w13a at HBX KX C2 C1 C3 ⊢
            generalize w12b.heap.size = gs at C2 ⊢
            refine hK.out _ _ KX.out (fun _ => ?_)
            clear hK K
            (try simp only [Act.put, List.getElem_toArray, List.getElem_cons_zero, List.getElem_cons_succ, List.setIfInBounds_toArray, List.set_cons_zero, List.set_cons_succ])
            refine wpAnyH_ready (rs := [11]) (by kernel_rfl) (by simp) ?_
            refine AllReadyH.cons rfl (fun K hK => ?_) AllReadyH.nil
            go_simp
            have hbx := below1 w13a (.cells #[.slice fa XF.length fc, .slice (some ⟨gs, 0, none⟩) 1 1, .slice ga XS.length gc] 74)
            have hgr := Has.new w13a (.cells #[.slice fa XF.length fc, .slice (some ⟨gs, 0, none⟩) 1 1, .slice ga XS.length gc] 74)
            have HBY : Hid (Below W9.heap.size W9 (w13a.alloc (.cells #[.slice fa XF.length fc, .slice (some ⟨gs, 0, none⟩) 1 1, .slice ga XS.length gc] 74))) := HBX.out.trans (hbx.mono HBX.out.size)
            have KY : Hid (Has (w13a.alloc (.cells #[.slice fa XF.length fc, .slice (some ⟨gs, 0, none⟩) 1 1, .slice ga XS.length gc] 74)) T8 (.cells #[.int .i64 (gn : Int), .int .i64 (so : Int), .int .i64 (len : Int), .int .i64 (Q : Int)] 67 (0, 0))) := Has.later KX.out hbx
            have D1 := Lib.hid (C1.out.later hbx)
            have D2 := Lib.hid (C2.out.later hbx)
            have D3 := Lib.hid (C3.out.later hbx)
            have HR := Lib.hid hgr
            clear hbx HBX KX C1 C2 C3 hgr
            have HBX := HBY
            have KX := KY
            have C1 := D1
            have C2 := D2
            have C3 := D3
            clear HBY KY D1 D2 D3
            generalize w13a.alloc (.cells #[.slice fa XF.length fc, .slice (some ⟨gs, 0, none⟩) 1 1, .slice ga XS.length gc] 74) = wR at HBX KX C1 C2 C3 HR ⊢
            generalize w13a.heap.size = gR at HR ⊢
            refine hK.out _ _ KX.out (fun _ => ?_)
            clear hK K
            (try simp only [Act.put, List.getElem_toArray, List.getElem_cons_zero, List.getElem_cons_succ, List.setIfInBounds_toArray, List.set_cons_zero, List.set_cons_succ])
            refine wpAnyH_ready (rs := [12]) (by kernel_rfl) (by simp) ?_
            refine AllReadyH.cons rfl (fun K hK => ?_) AllReadyH.nil
            go_simp
            have hcc := concat_carry C1.out C2.out C3.out HXL.out.1 HXL.out.2 HR.out
            refine hcc.mono ?_
            clear hcc
            rintro e wS ⟨sv, rfl, hst, hbx⟩
            dsimp only
            obtain ⟨ra, rc, rfl⟩ := hst.shape
            have C4 := Lib.hid hst
            clear hst
            generalize (XF ++ [Sk.Step.sync] ++ XS).length = LX at C4 ⊢
            have HBY : Hid (Below W9.heap.size W9 wS) := HBX.out.trans (hbx.mono HBX.out.size)
            have KY : Hid (Has wS T8 (.cells #[.int .i64 (gn : Int), .int .i64 (so : Int), .int .i64 (len : Int), .int .i64 (Q : Int)] 67 (0, 0))) := Has.later KX.out hbx
            clear hbx HBX KX HR C1 C2 C3
            have HBX := HBY
            have KX := KY
            clear HBY KY
            refine hK.out _ _ KX.out (fun _ => ?_)
            clear hK K
            (try simp only [Act.put, List.getElem_toArray, List.getElem_cons_zero, List.getElem_cons_succ, List.setIfInBounds_toArray, List.set_cons_zero, List.set_cons_succ])
            refine wpAnyH_ready (rs := [13]) (by kernel_rfl) (by simp) ?_
            refine AllReadyH.cons rfl (fun K hK => ?_) AllReadyH.nil
            go_simp
            have hrr := HRUN.out W9 wS _ HB9.out C4.out
            refine hrr.mono ?_
            clear hrr
            rintro e wF hq
            have he := hq.1
            subst he
            dsimp only
            have KF : Hid (Has wF T8 (.cells #[.int .i64 (gn : Int), .int .i64 (so : Int), .int .i64 (len : Int), .int .i64 (Q : Int)] 67 (0, 0))) := by
              obtain ⟨_, S', _, ht, _⟩ := hq
              exact (ht.block T8 KX.out.lt (HSN.out T8 HT8.out)).trans KX.out
            have HQF : Hid (DP w S b CD (.int .i64 CE) (.returned (.int .i64 CE)) wF) := hq.base (HB9.out.trans (HBX.out.mono HB9.out.size))
            clear hq HBX KX C4
            refine hK.out _ _ KF.out (fun _ => ?_)
            clear hK K
            (try simp only [Act.put, List.getElem_toArray, List.getElem_cons_zero, List.getElem_cons_succ, List.setIfInBounds_toArray, List.set_cons_zero, List.set_cons_succ])
            refine wpAnyH_take (i := 14) (v := ?_) rfl (by kernel_rfl) (by kernel_rfl) (by kernel_rfl) (fun _ _ _ h => h) (Or.inl ⟨rfl, ?hy14⟩) KF.out ?_
            case hy14 => intro w' hw'; clear hw'; go_simp; first | done | rfl
            (try simp only [Act.put, List.getElem_toArray, List.getElem_cons_zero, List.getElem_cons_succ, List.setIfInBounds_toArray, List.set_cons_zero, List.set_cons_succ])
            refine wpAnyH_done (by kernel_rfl) ?_ _
            refine NoBoth.normal ?_
            go_wp2_with fail
            go_ret
            exact HQF.out
        · go_simp
          have hbx := below1 W9 (.cells #[.func (.func 33) #[.pointer (some ⟨b, 0, none⟩)] #[]] 77)
          have hgs := Has.new W9 (.cells #[.func (.func 33) #[.pointer (some ⟨b, 0, none⟩)] #[]] 77)
          have HBY : Hid (Below W9.heap.size W9 (W9.alloc (.cells #[.func (.func 33) #[.pointer (some ⟨b, 0, none⟩)] #[]] 77))) := HBX.out.trans (hbx.mono HBX.out.size)
          have KY : Hid (Has (W9.alloc (.cells #[.func (.func 33) #[.pointer (some ⟨b, 0, none⟩)] #[]] 77)) T8 (.cells #[.int .i64 (gn : Int), .int .i64 (so : Int), .int .i64 (len : Int), .int .i64 (Q : Int)] 67 (0, 0))) := Has.later KX.out hbx
          have C2 : Hid (Carry (fun k => 0 < len ∧ ∃ off spot, a = some ⟨k, off, spot⟩) W9 (W9.alloc (.cells #[.func (.func 33) #[.pointer (some ⟨b, 0, none⟩)] #[]] 77)) b (.slice (some ⟨W9.heap.size, 0, none⟩) 1 1) [Sk.Step.sync]) := carry_sync HBY.out HBX.out.size hgs
          clear hbx HBX KX hgs
          have HBX := HBY
          have KX := KY
          clear HBY KY
          generalize W9.alloc (.cells #[.func (.func 33) #[.pointer (some ⟨b, 0, none⟩)] #[]] 77) = w11b at HBX KX C2 ⊢
          generalize W9.heap.size = gs at C2 ⊢
          refine hK.out _ _ KX.out (fun _ => ?_)
          clear hK K
          (try simp only [Act.put, List.getElem_toArray, List.getElem_cons_zero, List.getElem_cons_succ, List.setIfInBounds_toArray, List.set_cons_zero, List.set_cons_succ])
          refine wpAnyH_ready (rs := [4]) (by kernel_rfl) (by simp) ?_
          refine AllReadyH.cons rfl (fun K hK => ?_) AllReadyH.nil
          go_simp
          refine (HF2.out w11b (HB9.out.trans (HBX.out.mono HB9.out.size))).mono ?_
          rintro e w12a ⟨sv, rfl, hst, hbx⟩
          dsimp only
          have C1 : Hid (Carry (fun k => 0 < len ∧ ∃ off spot, a = some ⟨k, off, spot⟩) W9 w12a b sv XF) := ⟨hst.mono (fun k hk => ⟨hk.1.elim Or.inl (fun q => Or.inr (Nat.le_trans HBX.out.size q)), hk.2⟩), HBX.out.trans (hbx.mono HBX.out.size)⟩
          obtain ⟨fa, fc, rfl⟩ := C1.out.shape
          have HBY : Hid (Below W9.heap.size W9 w12a) := HBX.out.trans (hbx.mono HBX.out.size)
          have KY : Hid (Has w12a T8 (.cells #[.int .i64 (gn : Int), .int .i64 (so : Int), .int .i64 (len : Int), .int .i64 (Q : Int)] 67 (0, 0))) := Has.later KX.out hbx
          have D2 := Lib.hid (C2.out.later hbx)
          clear hbx HBX KX C2 hst
          have HBX := HBY
          have KX := KY
          have C2 := D2
          clear HBY KY D2
          refine hK.out _ _ KX.out (fun _ => ?_)
          clear hK K
          (try simp only [Act.put, List.getElem_toArray, List.getElem_cons_zero, List.getElem_cons_succ, List.setIfInBounds_toArray, List.set_cons_zero, List.set_cons_succ])
          refine wpAnyH_ready (rs := [10]) (by kernel_rfl) (by simp) ?_
          refine AllReadyH.cons rfl (fun K hK => ?_) AllReadyH.nil
          go_simp
          refine (HSEAL.out w12a).mono ?_
          rintro e w13a ⟨sv, rfl, hst, hbx⟩
          dsimp only
          have C3 : Hid (Carry (fun k => 0 < len ∧ ∃ off spot, a = some ⟨k, off, spot⟩) W9 w13a b sv XS) := ⟨hst.mono (fun k hk => ⟨Or.inr (Nat.le_trans HBX.out.size hk.1), hk.2⟩), HBX.out.trans (hbx.mono HBX.out.size)⟩
          obtain ⟨ga, gc, rfl⟩ := C3.out.shape
          have HBY : Hid (Below W9.heap.size W9 w13a) := HBX.out.trans (hbx.mono HBX.out.size)
          have KY : Hid (Has w13a T8 (.cells #[.int .i64 (gn : Int), .int .i64 (so : Int), .int .i64 (len : Int), .int .i64 (Q : Int)] 67 (0, 0))) := Has.later KX.out hbx
          have D1 := Lib.hid (C1.out.later hbx)
          have D2 := Lib.hid (C2.out.later hbx)
          clear hbx HBX KX C1 C2 hst
          have HBX := HBY
          have KX := KY
          have C1 := D1
          have C2 := D2
          clear HBY KY D1 D2
          refine hK.out _ _ KX.out (fun _ => ?_)
          clear hK K
          (try simp only [Act.put, List.getElem_toArray, List.getElem_cons_zero, List.getElem_cons_succ, List.setIfInBounds_toArray, List.set_cons_zero, List.set_cons_succ])
          refine wpAnyH_ready (rs := [11]) (by kernel_rfl) (by simp) ?_
          refine AllReadyH.cons rfl (fun K hK => ?_) AllReadyH.nil
          go_simp
          have hbx := below1 w13a (.cells #[.slice fa XF.length fc, .slice (some ⟨gs, 0, none⟩) 1 1, .slice ga XS.length gc] 74)
          have hgr := Has.new w13a (.cells #[.slice fa XF.length fc, .slice (some ⟨gs, 0, none⟩) 1 1, .slice ga XS.length gc] 74)
          have HBY : Hid (Below W9.heap.size W9 (w13a.alloc (.cells #[.slice fa XF.length fc, .slice (some ⟨gs, 0, none⟩) 1 1, .slice ga XS.length gc] 74))) := HBX.out.trans (hbx.mono HBX.out.size)
          have KY : Hid (Has (w13a.alloc (.cells #[.slice fa XF.length fc, .slice (some ⟨gs, 0, none⟩) 1 1, .slice ga XS.length gc] 74)) T8 (.cells #[.int .i64 (gn : Int), .int .i64 (so : Int), .int .i64 (len : Int), .int .i64 (Q : Int)] 67 (0, 0))) := Has.later KX.out hbx
          have D1 := Lib.hid (C1.out.later hbx)
          have D2 := Lib.hid (C2.out.later hbx)
          have D3 := Lib.hid (C3.out.later hbx)
          have HR := Lib.hid hgr
          clear hbx HBX KX C1 C2 C3 hgr
          have HBX := HBY
          have KX := KY
          have C1 := D1
          have C2 := D2
          have C3 := D3
          clear HBY KY D1 D2 D3
          generalize w13a.alloc (.cells #[.slice fa XF.length fc, .slice (some ⟨gs, 0, none⟩) 1 1, .slice ga XS.length gc] 74) = wR at HBX KX C1 C2 C3 HR ⊢
          generalize w13a.heap.size = gR at HR ⊢
          refine hK.out _ _ KX.out (fun _ => ?_)
          clear hK K
          (try simp only [Act.put, List.getElem_toArray, List.getElem_cons_zero, List.getElem_cons_succ, List.setIfInBounds_toArray, List.set_cons_zero, List.set_cons_succ])
          refine wpAnyH_ready (rs := [12]) (by kernel_rfl) (by simp) ?_
          refine AllReadyH.cons rfl (fun K hK => ?_) AllReadyH.nil
          go_simp
          have hcc := concat_carry C1.out C2.out C3.out HXL.out.1 HXL.out.2 HR.out
          refine hcc.mono ?_
          clear hcc
          rintro e wS ⟨sv, rfl, hst, hbx⟩
          dsimp only
          obtain ⟨ra, rc, rfl⟩ := hst.shape
          have C4 := Lib.hid hst
          clear hst
          generalize (XF ++ [Sk.Step.sync] ++ XS).length = LX at C4 ⊢
          have HBY : Hid (Below W9.heap.size W9 wS) := HBX.out.trans (hbx.mono HBX.out.size)
          have KY : Hid (Has wS T8 (.cells #[.int .i64 (gn : Int), .int .i64 (so : Int), .int .i64 (len : Int), .int .i64 (Q : Int)] 67 (0, 0))) := Has.later KX.out hbx
          clear hbx HBX KX HR C1 C2 C3
          have HBX := HBY
          have KX := KY
          clear HBY KY
          refine hK.out _ _ KX.out (fun _ => ?_)
          clear hK K
          (try simp only [Act.put, List.getElem_toArray, List.getElem_cons_zero, List.getElem_cons_succ, List.setIfInBounds_toArray, List.set_cons_zero, List.set_cons_succ])
          refine wpAnyH_ready (rs := [13]) (by kernel_rfl) (by simp) ?_
          refine AllReadyH.cons rfl (fun K hK => ?_) AllReadyH.nil
          go_simp
          have hrr := HRUN.out W9 wS _ HB9.out C4.out
          refine hrr.mono ?_
          clear hrr
          rintro e wF hq
          have he := hq.1
          subst he
          dsimp only
          have KF : Hid (Has wF T8 (.cells #[.int .i64 (gn : Int), .int .i64 (so : Int), .int .i64 (len : Int), .int .i64 (Q : Int)] 67 (0, 0))) := by
            obtain ⟨_, S', _, ht, _⟩ := hq
            exact (ht.block T8 KX.out.lt (HSN.out T8 HT8.out)).trans KX.out
          have HQF : Hid (DP w S b CD (.int .i64 CE) (.returned (.int .i64 CE)) wF) := hq.base (HB9.out.trans (HBX.out.mono HB9.out.size))
          clear hq HBX KX C4
          refine hK.out _ _ KF.out (fun _ => ?_)
          clear hK K
          (try simp only [Act.put, List.getElem_toArray, List.getElem_cons_zero, List.getElem_cons_succ, List.setIfInBounds_toArray, List.set_cons_zero, List.set_cons_succ])
          refine wpAnyH_take (i := 14) (v := ?_) rfl (by kernel_rfl) (by kernel_rfl) (by kernel_rfl) (fun _ _ _ h => h) (Or.inl ⟨rfl, ?hy14⟩) KF.out ?_
          case hy14 => intro w' hw'; clear hw'; go_simp; first | done | rfl
          (try simp only [Act.put, List.getElem_toArray, List.getElem_cons_zero, List.getElem_cons_succ, List.setIfInBounds_toArray, List.set_cons_zero, List.set_cons_succ])
          refine wpAnyH_done (by kernel_rfl) ?_ _
          refine NoBoth.normal ?_
          go_wp2_with fail
          go_ret
          exact HQF.out

      change wpAnyH _ _ _ _ _ 14 (Array.replicate 14 false) _ _
      refine wpAnyH_take (i := 0) (v := ?_) rfl (by kernel_rfl) (by kernel_rfl) (by kernel_rfl) (fun _ _ _ h => h) (Or.inl ⟨rfl, ?hy0⟩) KB0.out ?_
      case hy0 => intro w' hw'; clear hw'; go_simp; first | done | rfl
      (try simp only [Act.put, List.getElem_toArray, List.getElem_cons_zero, List.setIfInBounds_toArray, List.set_cons_zero, List.set_cons_succ])
      refine wpAnyH_take (i := 1) (v := ?_) rfl (by kernel_rfl) (by kernel_rfl) (by kernel_rfl) (fun _ _ _ h => h) (Or.inl ⟨rfl, ?hy1⟩) KB0.out ?_
      case hy1 => intro w' hw'; have q := L0 w' hw'; clear hw'; go_simp; first | done | rfl
      (try simp only [Act.put, List.getElem_toArray, List.getElem_cons_zero, List.getElem_cons_succ, List.setIfInBounds_toArray, List.set_cons_zero, List.set_cons_succ])
      refine wpAnyH_take (i := 2) (v := (.int .i64 (gn : Int))) rfl (by kernel_rfl) (by kernel_rfl) (by kernel_rfl) (fun _ _ _ h => h) (Or.inl ⟨rfl, ?hy2⟩) KB0.out ?_
      case hy2 => intro w' hw'; clear hw'; go_simp; first | done | rfl
      (try simp only [Act.put, List.getElem_toArray, List.getElem_cons_zero, List.getElem_cons_succ, List.setIfInBounds_toArray, List.set_cons_zero, List.set_cons_succ])
      refine wpAnyH_take (i := 3) (v := ?_) rfl (by kernel_rfl) (by kernel_rfl) (by kernel_rfl) (fun _ _ _ h => h) (Or.inl ⟨rfl, ?hy3⟩) KB0.out ?_
      case hy3 => intro w' hw'; clear hw'; go_simp; first | done | rfl
      (try simp only [Act.put, List.getElem_toArray, List.getElem_cons_zero, List.getElem_cons_succ, List.setIfInBounds_toArray, List.set_cons_zero, List.set_cons_succ])
      refine wpAnyH_take (i := 4) (v := ?_) rfl (by kernel_rfl) (by kernel_rfl) (by kernel_rfl) (fun _ _ _ h => h) (Or.inl ⟨rfl, ?hy4⟩) KB0.out ?_
      case hy4 => intro w' hw'; have q := L1 w' hw'; clear hw'; go_simp; first | done | rfl
      (try simp only [Act.put, List.getElem_toArray, List.getElem_cons_zero, List.getElem_cons_succ, List.setIfInBounds_toArray, List.set_cons_zero, List.set_cons_succ])
      refine wpAnyH_take (i := 5) (v := (.int .i64 (so : Int))) rfl (by kernel_rfl) (by kernel_rfl) (by kernel_rfl) (fun _ _ _ h => h) (Or.inl ⟨rfl, ?hy5⟩) KB0.out ?_
      case hy5 => intro w' hw'; clear hw'; go_simp; first | done | rfl
      (try simp only [Act.put, List.getElem_toArray, List.getElem_cons_zero, List.getElem_cons_succ, List.setIfInBounds_toArray, List.set_cons_zero, List.set_cons_succ])
      refine wpAnyH_take (i := 6) (v := ?_) rfl (by kernel_rfl) (by kernel_rfl) (by kernel_rfl) (fun _ _ _ h => h) (Or.inl ⟨rfl, ?hy6⟩) KB0.out ?_
      case hy6 => intro w' hw'; clear hw'; go_simp; first | done | rfl
      (try simp only [Act.put, List.getElem_toArray, List.getElem_cons_zero, List.getElem_cons_succ, List.setIfInBounds_toArray, List.set_cons_zero, List.set_cons_succ])
      refine wpAnyH_take (i := 7) (v := ?_) rfl (by kernel_rfl) (by kernel_rfl) (by kernel_rfl) (fun _ _ _ h => h) (Or.inl ⟨rfl, ?hy7⟩) KB0.out ?_
      case hy7 => intro w' hw'; clear hw'; go_simp; first | done | rfl
      (try simp only [Act.put, List.getElem_toArray, List.getElem_cons_zero, List.getElem_cons_succ, List.setIfInBounds_toArray, List.set_cons_zero, List.set_cons_succ])
      refine wpAnyH_take (i := 8) (v := ?_) rfl (by kernel_rfl) (by kernel_rfl) (by kernel_rfl) (fun _ _ _ h => h) (Or.inl ⟨rfl, ?hy8⟩) KB0.out ?_
      case hy8 => intro w' hw'; clear hw'; go_simp; first | done | rfl
      (try simp only [Act.put, List.getElem_toArray, List.getElem_cons_zero, List.getElem_cons_succ, List.setIfInBounds_toArray, List.set_cons_zero, List.set_cons_succ])
      refine wpAnyH_ready (rs := [9, 12]) (by kernel_rfl) (by simp) ?_
      refine AllReadyH.cons rfl (fun K hK => ?_) (AllReadyH.cons rfl (fun K hK => ?_) AllReadyH.nil)
      · go_simp
        refine (HSM.out _ (HB2.out.trans (KB0.out.mono HB2.out.size))).mono ?_
        rintro e w' ⟨rfl, rfl⟩
        dsimp only
        refine hK.out _ _ KB0.out (fun _ => ?_)
        clear hK K
        (try simp only [Act.put, List.getElem_toArray, List.getElem_cons_zero, List.getElem_cons_succ, List.setIfInBounds_toArray, List.set_cons_zero, List.set_cons_succ])
        refine wpAnyH_take (i := 10) (v := (.int .i64 (Q : Int))) rfl (by kernel_rfl) (by kernel_rfl) (by kernel_rfl) (fun _ _ _ h => h) (Or.inl ⟨rfl, ?hy10⟩) KB0.out ?_
        case hy10 => intro w' hw'; clear hw'; go_simp; first | done | rfl
        (try simp only [Act.put, List.getElem_toArray, List.getElem_cons_zero, List.getElem_cons_succ, List.setIfInBounds_toArray, List.set_cons_zero, List.set_cons_succ])
        refine wpAnyH_take (i := 11) (v := ?_) rfl (by kernel_rfl) (by kernel_rfl) (by kernel_rfl) (fun _ _ _ h => h) (Or.inl ⟨rfl, ?hy11⟩) KB0.out ?_
        case hy11 => intro w' hw'; clear hw'; go_simp; first | done | rfl
        (try simp only [Act.put, List.getElem_toArray, List.getElem_cons_zero, List.getElem_cons_succ, List.setIfInBounds_toArray, List.set_cons_zero, List.set_cons_succ])
        refine wpAnyH_ready (rs := [12]) (by kernel_rfl) (by simp) ?_
        refine AllReadyH.cons rfl (fun K hK => ?_) AllReadyH.nil
        go_simp
        refine hK.out _ _ KB1.out (fun _ => ?_)
        clear hK K
        (try simp only [Act.put, List.getElem_toArray, List.getElem_cons_zero, List.getElem_cons_succ, List.setIfInBounds_toArray, List.set_cons_zero, List.set_cons_succ])
        refine wpAnyH_ready (rs := [13]) (by kernel_rfl) (by simp) ?_
        refine AllReadyH.cons rfl (fun K hK => ?_) AllReadyH.nil
        go_simp
        refine hK.out _ _ KB2.out (fun _ => ?_)
        clear hK K
        (try simp only [Act.put, List.getElem_toArray, List.getElem_cons_zero, List.getElem_cons_succ, List.setIfInBounds_toArray, List.set_cons_zero, List.set_cons_succ])
        refine wpAnyH_done (by kernel_rfl) ?_ _
        exact HQ'.out
      · go_simp
        refine hK.out _ _ KB1.out (fun _ => ?_)
        clear hK K
        (try simp only [Act.put, List.getElem_toArray, List.getElem_cons_zero, List.getElem_cons_succ, List.setIfInBounds_toArray, List.set_cons_zero, List.set_cons_succ])
        refine wpAnyH_ready (rs := [9]) (by kernel_rfl) (by simp) ?_
        refine AllReadyH.cons rfl (fun K hK => ?_) AllReadyH.nil
        go_simp
        refine (HSM.out _ (HB2.out.trans (KB1.out.mono HB2.out.size))).mono ?_
        rintro e w' ⟨rfl, rfl⟩
        dsimp only
        refine hK.out _ _ KB1.out (fun _ => ?_)
        clear hK K
        (try simp only [Act.put, List.getElem_toArray, List.getElem_cons_zero, List.getElem_cons_succ, List.setIfInBounds_toArray, List.set_cons_zero, List.set_cons_succ])
        refine wpAnyH_take (i := 10) (v := (.int .i64 (Q : Int))) rfl (by kernel_rfl) (by kernel_rfl) (by kernel_rfl) (fun _ _ _ h => h) (Or.inl ⟨rfl, ?hy10⟩) KB1.out ?_
        case hy10 => intro w' hw'; clear hw'; go_simp; first | done | rfl
        (try simp only [Act.put, List.getElem_toArray, List.getElem_cons_zero, List.getElem_cons_succ, List.setIfInBounds_toArray, List.set_cons_zero, List.set_cons_succ])
        refine wpAnyH_take (i := 11) (v := ?_) rfl (by kernel_rfl) (by kernel_rfl) (by kernel_rfl) (fun _ _ _ h => h) (Or.inl ⟨rfl, ?hy11⟩) KB1.out ?_
        case hy11 => intro w' hw'; clear hw'; go_simp; first | done | rfl
        (try simp only [Act.put, List.getElem_toArray, List.getElem_cons_zero, List.getElem_cons_succ, List.setIfInBounds_toArray, List.set_cons_zero, List.set_cons_succ])
        refine wpAnyH_ready (rs := [13]) (by kernel_rfl) (by simp) ?_
        refine AllReadyH.cons rfl (fun K hK => ?_) AllReadyH.nil
        go_simp
        refine hK.out _ _ KB2.out (fun _ => ?_)
        clear hK K
        (try simp only [Act.put, List.getElem_toArray, List.getElem_cons_zero, List.getElem_cons_succ, List.setIfInBounds_toArray, List.set_cons_zero, List.set_cons_succ])
        refine wpAnyH_done (by kernel_rfl) ?_ _
        exact HQ'.out
end Go.Proofs.Ythbiibinmofmfaa
