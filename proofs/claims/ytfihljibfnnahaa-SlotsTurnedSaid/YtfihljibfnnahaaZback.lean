/- SlotsBack, SlotsPower: their arguments; what a disk holds from Commit to Commit; a Commit of too many bytes. -/
import Derived.Test.YtfihljibfnnahaaZlives
import Derived.Test.YtfihljibfnnahaaCarg
import Derived.ChangeArms
import Derived.DataReads

namespace Go.Proofs.Ytfihljibfnnahaa
set_option maxRecDepth 100000
open Go.ChangeShapes Go.WideShapes Go.ChangeAt Go.RowKit

/-- A slice of bytes that came in, of any length. -/
def El (W : World) (v : Value) (l c : Nat) (bs : List Nat) : Prop := l ≤ c ∧ l ≤ 9223372036854775807 ∧ (l ≤ 3000 → Sl W v bs)
theorem el_trod {H : Type} {enc : TypeId × Value → H} {W : World} {fuel : Nat} {cs : List Value} {x : DataW H × List MemPlace}
    (h : DataW.trod enc Try.prog W 0 (fun _ => true) true fuel 43 cs = some x) : ∃ a len cap bs, cs = [.slice a len cap] ∧ El W (.slice a len cap) len cap bs := by
  rcases open_ints Try.underlying43 Try.underlying5 Try.cellsU8 h with ⟨rfl, rfl⟩ | ⟨a, len, cap, zs, rfl, _, hl, hm, hz, rfl, hcell, hwz⟩
  · exact ⟨_, _, _, [], rfl, Nat.le_refl _, by omega, fun _ => Sl.nil W⟩
  · have hz' : zs.length = cap := by simpa using hz
    refine ⟨_, _, _, (zs.take len).map Int.toNat, rfl, hl, by unfold maxLen at hm; omega, fun h3 => ⟨some a, len, cap, rfl, by simp; omega, by omega, fun h => by simp at h, ?_, fun h0 => ?_⟩⟩
    · intro y hy
      simp only [List.mem_map] at hy
      obtain ⟨z, hz1, rfl⟩ := hy
      have := wf_u8 (hwz z (List.mem_of_mem_take hz1))
      omega
    · obtain ⟨b, off, spot⟩ := a
      have hc0 := hcell 0 (by omega)
      have hspot : spot = none := by simpa [Addr.add] using World.cell?_spot hc0
      subst hspot
      refine ⟨b, off, rfl, ?_, fun i hi => ?_⟩
      · have := World.block_lt_of_cell? W _ hc0
        simpa [Addr.add] using this
      · have hc := hcell i (by omega)
        have e : (⟨b, off, none⟩ : Addr).add i = ⟨b, off + i, none⟩ := by cases i <;> simp [Addr.add]
        rw [e] at hc
        rw [hc]
        have hi' : i < zs.length := by omega
        have := wf_u8 (hwz zs[i] (List.getElem_mem hi'))
        simp [hi, List.getElem?_eq_getElem hi', List.getD]
        omega

/-- A slice of slices of bytes. -/
def Ells (W : World) (v : Value) : Prop := ∃ a n cap, v = .slice a n cap ∧ n ≤ 9223372036854775807 ∧
  (0 < n → ∃ b off, a = some ⟨b, off, none⟩ ∧ b < W.heap.size ∧ ∀ i, i < n → ∃ ai li ci bs, W.cell? ⟨b, off + i, none⟩ = some (.slice ai li ci) ∧ El W (.slice ai li ci) li ci bs)

theorem ells_open {H : Type} {enc : TypeId × Value → H} {W : World} {v : Value} {d : DataW H} {p : List MemPlace} {base : Nat} (hv : Value.okWide Try.prog W .any base 74 v)
    (h : DataW.Trod enc Try.prog W 0 (fun _ => true) true 74 v d p) : Ells W v := by
  obtain ⟨a1, len, cap, rfl⟩ := okWide_slice Try.underlying74 hv
  obtain ⟨fuel, hf⟩ := h
  have hc1 : Try.prog.cellsOf 43 = 1 := by kernel_rfl
  rcases DataW.trod_slice Try.underlying74 hf with ⟨hcs, _⟩ | ⟨a, len', cap', elems, rest, n, _, hcs, hx, _, hl, hm, hlen, hel, _⟩
  · simp [Value.cells] at hcs
    obtain ⟨rfl, rfl, rfl⟩ := hcs
    exact ⟨_, _, _, rfl, by omega, fun h0 => absurd h0 (by omega)⟩
  · simp [Value.cells] at hcs
    obtain ⟨rfl, rfl, rfl⟩ := hcs
    refine ⟨_, _, _, rfl, by unfold maxLen at hm; omega, fun h0 => ?_⟩
    have key : ∀ i, i < len → ∃ c, W.cell? (a.add i) = some c ∧ ∃ y, DataW.trod enc Try.prog W 0 (fun _ => true) true n 43 [c] = some y := by
      intro i hi
      have hE := hel i hi
      rw [hc1, Nat.mul_one] at hE
      rw [List.getElem?_eq_getElem (by omega)] at hE
      simp only [Option.bind_eq_some_iff] at hE
      obtain ⟨c1, hc1, hy1⟩ := hE
      have e0 : (a.add i).add 0 = a.add i := by simp [Addr.add]
      have : ∃ c, c1 = [c] ∧ W.cell? (a.add i) = some c := by
        unfold World.cells? at hc1
        split at hc1
        · simp only [List.range_succ, List.range_zero, List.nil_append, List.mapM_cons, List.mapM_nil, e0] at hc1
          cases hcc : W.cell? (a.add i) with
          | none => simp [hcc] at hc1
          | some c => simp [hcc] at hc1; exact ⟨c, hc1.symm, rfl⟩
        · cases hc1
      obtain ⟨c, rfl, hcell⟩ := this
      exact ⟨c, hcell, _, hy1⟩
    obtain ⟨b, off, spot⟩ := a
    obtain ⟨c0, hc0, _⟩ := key 0 h0
    have hspot : spot = none := by simpa [Addr.add] using World.cell?_spot hc0
    subst hspot
    refine ⟨b, off, rfl, ?_, fun i hi => ?_⟩
    · have := World.block_lt_of_cell? W _ hc0
      simpa [Addr.add] using this
    · obtain ⟨c, hc, y, hy⟩ := key i hi
      have e : (⟨b, off, none⟩ : Addr).add i = ⟨b, off + i, none⟩ := by cases i <;> simp [Addr.add]
      rw [e] at hc
      obtain ⟨ai, li, ci, bs, e2, e3⟩ := el_trod hy
      have : c = .slice ai li ci := by simpa using e2
      subst this
      exact ⟨ai, li, ci, bs, hc, e3⟩

/-- A slice of truths. -/
def Bls (W : World) (v : Value) : Prop := ∃ a n cap, v = .slice a n cap ∧ n ≤ 9223372036854775807 ∧
  (0 < n → ∃ b off, a = some ⟨b, off, none⟩ ∧ b < W.heap.size ∧ ∀ i, i < n → ∃ t, W.cell? ⟨b, off + i, none⟩ = some (.bool t))
theorem bls_open {H : Type} {enc : TypeId × Value → H} {W : World} {v : Value} {d : DataW H} {p : List MemPlace} {base : Nat} (hv : Value.okWide Try.prog W .any base 75 v)
    (h : DataW.Trod enc Try.prog W 0 (fun _ => true) true 75 v d p) : Bls W v := by
  obtain ⟨a1, len, cap, rfl⟩ := okWide_slice Try.underlying75 hv
  obtain ⟨fuel, hf⟩ := h
  have hc1 : Try.prog.cellsOf 4 = 1 := by kernel_rfl
  rcases DataW.trod_slice Try.underlying75 hf with ⟨hcs, _⟩ | ⟨a, len', cap', elems, rest, n, _, hcs, hx, _, hl, hm, hlen, hel, _⟩
  · simp [Value.cells] at hcs
    obtain ⟨rfl, rfl, rfl⟩ := hcs
    exact ⟨_, _, _, rfl, by omega, fun h0 => absurd h0 (by omega)⟩
  · simp [Value.cells] at hcs
    obtain ⟨rfl, rfl, rfl⟩ := hcs
    refine ⟨_, _, _, rfl, by unfold maxLen at hm; omega, fun h0 => ?_⟩
    have key : ∀ i, i < len → ∃ t, W.cell? (a.add i) = some (.bool t) := by
      intro i hi
      have hE := hel i hi
      rw [hc1, Nat.mul_one] at hE
      rw [List.getElem?_eq_getElem (by omega)] at hE
      simp only [Option.bind_eq_some_iff] at hE
      obtain ⟨c1, hc1, hy1⟩ := hE
      have e0 : (a.add i).add 0 = a.add i := by simp [Addr.add]
      have : ∃ c, c1 = [c] ∧ W.cell? (a.add i) = some c := by
        unfold World.cells? at hc1
        split at hc1
        · simp only [List.range_succ, List.range_zero, List.nil_append, List.mapM_cons, List.mapM_nil, e0] at hc1
          cases hcc : W.cell? (a.add i) with
          | none => simp [hcc] at hc1
          | some c => simp [hcc] at hc1; exact ⟨c, hc1.symm, rfl⟩
        · cases hc1
      obtain ⟨c, rfl, hcell⟩ := this
      obtain ⟨t, rfl⟩ : ∃ t, c = .bool t := by
        cases n with
        | zero => simp [DataW.trod] at hy1
        | succ m =>
          unfold DataW.trod at hy1
          rw [Try.underlying4] at hy1
          split at hy1 <;> simp_all
      exact ⟨t, hcell⟩
    obtain ⟨b, off, spot⟩ := a
    obtain ⟨c0, hc0⟩ := key 0 h0
    have hspot : spot = none := by simpa [Addr.add] using World.cell?_spot hc0
    subst hspot
    refine ⟨b, off, rfl, ?_, fun i hi => ?_⟩
    · have := World.block_lt_of_cell? W _ hc0
      simpa [Addr.add] using this
    · obtain ⟨t, hc⟩ := key i hi
      have e : (⟨b, off, none⟩ : Addr).add i = ⟨b, off + i, none⟩ := by cases i <;> simp [Addr.add]
      rw [e] at hc
      exact ⟨t, hc⟩

namespace Sk
/-- What holds of the disk of nine sectors between two rounds. -/
def Good (d : Ek.Dk) (last : List Nat) (gen : Nat) (u : Nat) : Prop := Cln d ∧ d.n = 9 ∧ (∃ sl, Loads 9 (Ek.now d) last gen sl) ∧ d.used ≤ u
theorem Good.start : formatE (Ek.fresh 9) = 0 ∧ Good (format (Ek.fresh 9)) [] 0 2 := by
  obtain ⟨a, b, c, d, e⟩ := format_free (Ek.fresh_ok 9 (by decide) (by decide)) (fresh_cln 9) (by decide)
  exact ⟨a, c, b, ⟨0, d⟩, e⟩
theorem Good.told {d : Ek.Dk} {last : List Nat} {gen u : Nat} (h : Good d last gen u) : loadE d = 0 ∧ loadB d = last ∧ loadG d = gen ∧ (says d).gen = gen := by
  obtain ⟨c, n, ⟨sl, l⟩, _⟩ := h
  rw [← n] at l
  obtain ⟨q0, q1, q2, _, q4⟩ := l.told c.2.1 (by omega)
  exact ⟨q0, q1, q2, q4⟩
theorem Good.put {d : Ek.Dk} {last : List Nat} {gen u : Nat} (h : Good d last gen u) (hok : Ek.Ok d) (bs : List Nat) (h8 : ∀ x ∈ bs, x < 256) (hb : bs.length ≤ 2048) (hg : gen < 4294967295) : commitE d bs = 0 ∧ Good (commit d bs) bs (gen + 1) (u + 7) := by
  obtain ⟨c, n, ⟨sl, l⟩, hu⟩ := h
  have l' : Loads d.n (Ek.now d) last gen sl := by rw [n]; exact l
  obtain ⟨p1, p2, p3, p4, p5, p6⟩ := commit_free hok c (by omega) l' hg bs h8 (by rw [n]; exact hb)
  refine ⟨p1, p3, p2.trans n, ⟨_, by rw [n] at p4; exact p4⟩, ?_⟩
  have : pieces bs ≤ 4 := by unfold pieces; omega
  omega
theorem Good.crash {d : Ek.Dk} {last : List Nat} {gen u : Nat} (h : Good d last gen u) (keep : Nat → Int) : Good (Ek.crash d keep) last gen u := by
  obtain ⟨⟨c1, c2, c3⟩, n, ⟨sl, l⟩, hu⟩ := h
  have hs : ∀ i, Ek.now (Ek.crash d keep) i = Ek.now d i := fun i => by rw [Ek.now_crash, Ek.now_clean c1, c1]; rfl
  refine ⟨⟨rfl, rfl, rfl⟩, n, ⟨sl, ?_⟩, hu⟩
  rw [show Ek.now (Ek.crash d keep) = Ek.now d from funext hs]
  exact l
theorem Good.up {d : Ek.Dk} {last : List Nat} {gen u v : Nat} (h : Good d last gen u) (hv : u ≤ v) : Good d last gen v := ⟨h.1, h.2.1, h.2.2.1, Nat.le_trans h.2.2.2 hv⟩
end Sk

set_option maxRecDepth 100000 in
set_option maxHeartbeats 4000000 in
theorem commit_long (w : World) (S : Nat → Prop) (b : Nat) (d : Ek.Dk) (h : Dsk w S b d) (a : Option Addr) (len cap : Nat) (hl : Sk.loadE d = 0) (hg : (Sk.says d).gen ≠ 4294967295) (hrm : Sk.room d.n < len) : Calls Try.prog 26 #[.pointer (some ⟨b, 0, none⟩), .slice a len cap] w (DP w S b d (.int .i64 7)) := by
  have HC : Hid (Calls Try.prog 51 #[.pointer (some ⟨b, 0, none⟩)] w fun e w' => (∃ a6 c6, e = .returned (.tuple #[sts (Sk.says d), .slice a6 (Sk.says d).size c6, .int .i64 0])) ∧ Below w.heap.size w w') := (load_any w S b d h).mono fun e w' hp => by
    obtain ⟨h1, h2⟩ := hp
    rcases h2 with ⟨h2, _⟩ | ⟨_, a6, c6, h2, _⟩
    · exact absurd hl h2
    · exact ⟨⟨a6, c6, h2⟩, h1⟩
  have HQ2 : Hid (∀ w', Below w.heap.size w w' → DP w S b d (.int .i64 7) (.returned (.int .i64 7)) w') := fun w' hb => (dp_same (h.later hb) _).base hb
  have HLEN : Hid (∀ wx, Below w.heap.size w wx → Calls Try.prog 15 #[.pointer (some ⟨b, 0, none⟩)] wx fun e w' => e = .returned (.int .i64 (d.n : Int)) ∧ wx = w') := fun wx hb => len_any wx S b d (h.later hb)
  have HROOM : Hid (∀ wx, Calls Try.prog 36 #[.int .i64 (d.n : Int)] wx fun e w' => e = .returned (.int .i64 ((Sk.room d.n : Nat) : Int)) ∧ wx = w') := fun wx => by have := zroom_any (d.n : Int) wx; rw [Sk.roomI_nat] at this; exact this
  have hge : (((Sk.says d).gen : Nat) : Int) ≠ 4294967295 := by omega
  have hd0 : decide (((Sk.room d.n : Nat) : Int) < (len : Int)) = true := decide_eq_true (by omega)
  generalize Sk.room d.n = RM at HROOM hd0 hrm
  obtain ⟨N, hN⟩ : ∃ N, N = d.n := ⟨_, rfl⟩
  rw [← hN] at HLEN HROOM
  generalize Sk.says d = s at HC hge
  obtain ⟨g, sl, sz, sm⟩ := s
  unfold sts at HC
  dsimp only at HC hge
  have hg1 : ((g : Int) == 4294967295) = false := by simpa using hge
  clear h hl hg hge hN
  go_enter Try.func26, Try.ntmps26
  go_wp2_with fail
  refine HC.out.mono ?_
  clear HC
  rintro e w2 ⟨⟨a6, c6, rfl⟩, hb⟩
  have HB2 : Hid (Below w.heap.size w (w2.alloc (.cells #[.int .i64 (g : Int), .int .i64 (sl : Int), .int .i64 (sz : Int), .int .i64 (sm : Int)] 98))) := hb.trans ((below1 w2 _).mono hb.size)
  have HS2 : Hid (Has (w2.alloc (.cells #[.int .i64 (g : Int), .int .i64 (sl : Int), .int .i64 (sz : Int), .int .i64 (sm : Int)] 98)) w2.heap.size (.cells #[.int .i64 (g : Int), .int .i64 (sl : Int), .int .i64 (sz : Int), .int .i64 (sm : Int)] 98 (0, 0))) := Has.new w2 _
  have q0 : (w2.alloc (.cells #[.int .i64 (g : Int), .int .i64 (sl : Int), .int .i64 (sz : Int), .int .i64 (sm : Int)] 98)).cell? ⟨w2.heap.size, 0, none⟩ = some (.int .i64 (g : Int)) := HS2.out.cell 0
  have q1 : (w2.alloc (.cells #[.int .i64 (g : Int), .int .i64 (sl : Int), .int .i64 (sz : Int), .int .i64 (sm : Int)] 98)).cell? ⟨w2.heap.size, 1, none⟩ = some (.int .i64 (sl : Int)) := HS2.out.cell 1
  clear hb
  go_wp2_with fail
  refine (HLEN.out _ HB2.out).mono ?_
  rintro e w' ⟨rfl, rfl⟩
  go_wp2_with fail
  refine (HROOM.out _).mono ?_
  rintro e w' ⟨rfl, rfl⟩
  go_wp2_with fail
  go_ret
  exact HQ2.out _ HB2.out
theorem lz_long {w0 w : World} {b : Nat} {d : Ek.Dk} {N : Nat} (h : Lv w0 w b d N) {last : List Nat} {gen u : Nat} (hG : Sk.Good d last gen u) (hg : gen < 4294967295) (a : Option Addr) (len cap : Nat) (hl : 2048 < len) : Calls Try.prog 26 #[.pointer (some ⟨b, 0, none⟩), .slice a len cap] w (LvP w0 b d (.int .i64 7)) := by
  obtain ⟨S, hd, hS, hn, hb⟩ := h
  obtain ⟨q0, _, _, q3⟩ := hG.told
  exact (commit_long w S b d hd a len cap q0 (by omega) (by rw [hG.2.1]; exact hl)).mono fun e w' hp => LvP.of hS hn hb hp
/-- The slices of bytes, at all later worlds. -/
def EllAt (w : World) (a : Option Addr) (n : Nat) : Prop := ∀ k, k < n → ∃ b off ai li ci bs, a = some ⟨b, off, none⟩ ∧ li ≤ ci ∧ (li ≤ 3000 → 0 < li → ∀ g off spot, ai = some ⟨g, off, spot⟩ → g < w.heap.size) ∧ ∀ w', Below w.heap.size w w' → w'.cell? ⟨b, off + k, none⟩ = some (.slice ai li ci) ∧ (li ≤ 3000 → Sl w' (.slice ai li ci) bs)
theorem ell_at {w : World} {a : Option Addr} {n : Nat} (h : 0 < n → ∃ b off, a = some ⟨b, off, none⟩ ∧ b < w.heap.size ∧ ∀ i, i < n → ∃ ai li ci bs, w.cell? ⟨b, off + i, none⟩ = some (.slice ai li ci) ∧ El w (.slice ai li ci) li ci bs) : EllAt w a n := fun k hk => by
  obtain ⟨b, off, ha, hb, hc⟩ := h (by omega)
  obtain ⟨ai, li, ci, bs, h1, h2, _, h4⟩ := hc k hk
  refine ⟨b, off, ai, li, ci, bs, ha, h2, fun h3 h0 g o s e => ?_, fun w' hw => ⟨(World.cell?_of_block (a := ⟨b, off + k, none⟩) (hw.block b hb)).trans h1, fun h3 => (h4 h3).later hw⟩⟩
  obtain ⟨a', l', c', q, _, _, _, _, q5⟩ := h4 h3
  injection q with q1 q2 q3
  subst q1 q2 q3
  obtain ⟨b', o', q, q6, _⟩ := q5 h0
  rw [e] at q
  injection q with q; injection q with q _ _
  rw [q]; exact q6
def BlAt (w : World) (a : Option Addr) (n : Nat) : Prop := ∀ k, k < n → ∃ b off t, a = some ⟨b, off, none⟩ ∧ ∀ w', Below w.heap.size w w' → w'.cell? ⟨b, off + k, none⟩ = some (.bool t)
theorem bl_at {w : World} {a : Option Addr} {n : Nat} (h : 0 < n → ∃ b off, a = some ⟨b, off, none⟩ ∧ b < w.heap.size ∧ ∀ i, i < n → ∃ t, w.cell? ⟨b, off + i, none⟩ = some (.bool t)) : BlAt w a n := fun k hk => by
  obtain ⟨b, off, ha, hb, hc⟩ := h (by omega)
  obtain ⟨t, h1⟩ := hc k hk
  exact ⟨b, off, t, ha, fun w' hw => (World.cell?_of_block (a := ⟨b, off + k, none⟩) (hw.block b hb)).trans h1⟩
theorem ks_nil (w : World) : Ks w (.slice none 0 0) [] := ⟨none, 0, rfl, by simp, by simp, fun h => absurd h (by simp)⟩
theorem lz_loose0 {w0 w : World} {b : Nat} {d : Ek.Dk} {N : Nat} (h : Lv w0 w b d N) (hl : d.loose = []) : Calls Try.prog 40 #[.pointer (some ⟨b, 0, none⟩)] w fun e w' => e = .returned (.int .i64 0) ∧ w = w' :=
  (lv_loose h).mono fun e w' hp => by rw [hl] at hp; exact hp
end Go.Proofs.Ytfihljibfnnahaa
