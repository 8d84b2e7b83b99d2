/- Contract of slots' content: the bytes of the slot that counts. -/
import Derived.Test.YthbiibinmofmfaaZread
import Derived.Test.YthbiibinmofmfaaEstr
import Derived.Laws.MakeOwn
import Derived.BigQuiet

namespace Go.Proofs.Ythbiibinmofmfaa
set_option maxRecDepth 100000
open Go.RowKit

/-- The slot's bytes from the first k sectors. -/
def Sk.upto (f : Nat → List Nat) (a size k : Nat) : List Nat := (Sk.secs f a k).take size
theorem Sk.upto_zero (f : Nat → List Nat) (a size : Nat) : Sk.upto f a size 0 = [] := by simp [Sk.upto, Sk.secs]
theorem Sk.secs_len (f : Nat → List Nat) (a k : Nat) (h : ∀ i, (f i).length = 512) : (Sk.secs f a k).length = 512 * k := by
  induction k with
  | zero => rfl
  | succ k ih => simp only [Sk.secs, List.length_append, ih, h]; omega
theorem Sk.upto_length (f : Nat → List Nat) (a size k : Nat) (h : ∀ i, (f i).length = 512) : (Sk.upto f a size k).length = min size (512 * k) := by
  unfold Sk.upto; rw [List.length_take, Sk.secs_len f a k h]
theorem Sk.upto_succ (f : Nat → List Nat) (a size k m : Nat) (h : ∀ i, (f i).length = 512) (hm : m = min 512 (size - 512 * k)) : Sk.upto f a size (k + 1) = Sk.upto f a size k ++ (f (a + k)).take m := by
  unfold Sk.upto
  have hl := Sk.secs_len f a k h
  simp only [Sk.secs]
  rw [List.take_append, hl]
  congr 1
  rw [hm]
  rcases Nat.lt_or_ge 512 (size - 512 * k) with q | q
  · rw [Nat.min_eq_left (by omega), List.take_of_length_le (by rw [h]; omega), List.take_of_length_le (by rw [h]; exact Nat.le_refl _)]
  · rw [Nat.min_eq_right q]

set_option maxRecDepth 100000 in
set_option maxHeartbeats 4000000 in
theorem content_any (w : World) (S : Nat → Prop) (b : Nat) (d : Ek.Dk) (h : Dsk w S b d) (g slot size sm : Nat) (hd : d.dark = false) (hn : 3 ≤ d.n) (hs : slot ≤ 1) (hz : size ≤ Sk.room d.n) :
    Calls Try.prog 52 #[.pointer (some ⟨b, 0, none⟩), .agg #[.int .i64 (g : Int), .int .i64 (slot : Int), .int .i64 (size : Int), .int .i64 (sm : Int)]] w fun e w' => ∃ a cap, e = .returned (.tuple #[.slice a size cap, .int .i64 0]) ∧ Mine w' w.heap.size a size cap (Sk.content d slot size) ∧ Below w.heap.size w w' := by
  have hok := h.ok
  have hn8 := hok.hi
  have hsh : (size + 511) / 512 ≤ Sk.share d.n ∧ size ≤ 1048576 ∧ Sk.front d.n slot + Sk.share d.n ≤ d.n := by
    unfold Sk.room at hz
    have : slot * Sk.share d.n ≤ 1 * Sk.share d.n := Nat.mul_le_mul_right _ hs
    have : 1 + 2 * Sk.share d.n ≤ d.n := by unfold Sk.share; omega
    unfold Sk.front
    split at hz
    · omega
    · omega
  have HRL : Hid (∀ i, Row (Ek.now d i)) := fun i => Ek.now_row hok i
  have HLEN : Hid (∀ wx, Below w.heap.size w wx → Calls Try.prog 28 #[.pointer (some ⟨b, 0, none⟩)] wx fun e w' => e = .returned (.int .i64 (d.n : Int)) ∧ wx = w') := fun wx hb => len_any wx S b d (h.later hb)
  have HFR : Hid (∀ wx, Calls Try.prog 56 #[.int .i64 (d.n : Int), .int .i64 (slot : Int)] wx fun e w' => e = .returned (.int .i64 ((Sk.front d.n slot : Nat) : Int)) ∧ wx = w') := fun wx => zfront_any d.n slot (by omega) hn8 hs wx
  have HRD : Hid (∀ wx i, Below w.heap.size w wx → i < d.n → Calls Try.prog 21 #[.pointer (some ⟨b, 0, none⟩), .int .i64 (i : Int)] wx fun e w' => Below wx.heap.size wx w' ∧ ∃ g, e = .returned (.tuple #[.slice (some ⟨g, 0, none⟩) 512 512, .int .i64 0]) ∧ wx.heap.size ≤ g ∧ Has w' g (.cells (vb (Ek.now d i)).toArray 93 (0, 0))) := fun wx i hb hi =>
    (read_any wx S b d (i : Int) (h.later hb)).mono fun e w' hp => by
      obtain ⟨h1, h2⟩ := hp
      have e0 : Ek.readE d (i : Int) = 0 := by unfold Ek.readE; rw [if_neg (by omega), if_neg (by simp [hd])]
      rcases h2 with ⟨h2, _⟩ | ⟨_, g, h2, h3, h4⟩
      · exact absurd e0 h2
      · exact ⟨h1, g, h2, h3, by rw [Int.toNat_natCast] at h4; exact h4⟩
  have HRS : Hid (Sk.content d slot size = Sk.upto (Ek.now d) (Sk.front d.n slot) size ((size + 511) / 512)) := rfl
  rw [HRS.out]
  obtain ⟨hs1, hs2, hs3⟩ := hsh
  have hfr : Sk.front d.n slot ≤ 20000 := by omega
  generalize Sk.share d.n = q at hs1 hs3
  generalize Sk.front d.n slot = fr at HFR hs3 hfr ⊢
  obtain ⟨N, hN⟩ : ∃ N, N = d.n := ⟨_, rfl⟩
  rw [← hN] at HLEN HFR HRD hs3 hn8
  obtain ⟨f, hf⟩ : ∃ f, f = Ek.now d := ⟨_, rfl⟩
  rw [← hf] at HRL HRD ⊢
  clear h hok hz hn hN hf HRS hd hs
  obtain ⟨i0, hi0, hz0, hz1, hz2⟩ := info_parts Try.infoU8
  obtain ⟨wM, hmk, hown, hgr⟩ := run_make_own (P := Try.prog) (w.alloc (.cells #[.int .i64 (g : Int), .int .i64 (slot : Int), .int .i64 (size : Int), .int .i64 (sm : Int)] 67)) w.heap.size 35 5 i0 (.int .u8 0) 1 Try.underlying35 hi0 hz0 hz1 .i64 .i64 size (by rw [hz2]; omega) (by unfold maxLen; omega) (by simp)
  rw [show (w.alloc (.cells #[.int .i64 (g : Int), .int .i64 (slot : Int), .int .i64 (size : Int), .int .i64 (sm : Int)] 67)).heap.size = w.heap.size + 1 by simp] at hmk hown
  have HBX : Hid (Has wM w.heap.size (.cells #[.int .i64 (g : Int), .int .i64 (slot : Int), .int .i64 (size : Int), .int .i64 (sm : Int)] 67 (0, 0))) := (Has.new w _).grown hgr (by simp)
  have HBM : Hid (Below w.heap.size w wM) := (below1 w _).grown hgr (by simp) (fun q e => by simp at e)
  have HOM := Lib.hid hown
  clear hown hgr hi0 hz0 hz1 hz2 i0
  have bx1 := HBX.out.cell 1
  have bx2 := HBX.out.cell 2
  go_enter Try.func52, Try.ntmps52
  go_wp2_with fail
  go_region_held3 (fun wx => wx.cell? ⟨w.heap.size, 1, none⟩ = some (.int .i64 (slot : Int))) (go_keep) (first | (go_at_call 28; refine (HLEN.out _ (below_drewN HBM.out 1)).mono ?_; rintro e w' ⟨rfl, rfl⟩) | (go_at_call 56; refine (HFR.out _).mono ?_; rintro e w' ⟨rfl, rfl⟩))
  have H0 : Hid ((wM.drewN 1).ownsRow w.heap.size 5 1 (.slice (some ⟨w.heap.size + 1, 0, none⟩) 0 size) 0 (vb (Sk.upto f fr size 0))) := by
    rw [Sk.upto_zero]
    exact HOM.out
  have B0 : Hid (Below w.heap.size w (wM.drewN 1)) := below_drewN HBM.out 1
  have X0 : Hid (Has (wM.drewN 1) w.heap.size (.cells #[.int .i64 (g : Int), .int .i64 (slot : Int), .int .i64 (size : Int), .int .i64 (sm : Int)] 67 (0, 0))) := HBX.out
  generalize wM.drewN 1 = wD at H0 B0 X0 ⊢
  clear HBX HBM HOM hmk bx1 bx2 HLEN HFR
  go_wp2_with fail
  go_loopw [6, 7] (fun s6 s7 wr => ∃ (k len gk cap : Nat), s6 = .slice (some ⟨gk, 0, none⟩) len cap ∧ s7 = .int .i64 ((fr + k : Nat) : Int) ∧ Hid (len = min size (512 * k)) ∧ Hid (k ≤ (size + 511) / 512) ∧ Hid (wr.ownsRow w.heap.size 5 1 (.slice (some ⟨gk, 0, none⟩) len cap) len (vb (Sk.upto f fr size k))) ∧ Hid (Below w.heap.size w wr) ∧ Hid (Has wr w.heap.size (.cells #[.int .i64 (g : Int), .int .i64 (slot : Int), .int .i64 (size : Int), .int .i64 (sm : Int)] 67 (0, 0)))) (fun s6 _ _ => size - (match s6 with | .slice _ l _ => l | _ => 0))
  case atStart => exact ⟨0, 0, _, _, rfl, by go_num, by show _ = _; omega, Nat.zero_le _, H0, B0, X0⟩
  case round =>
    obtain ⟨k, len, gk, cap, rfl, rfl, KL, KK, KO, KB, KX⟩ := hrel
    have bx2 := KX.out.cell 2
    have hl1 : len ≤ size := by rw [KL.out]; exact Nat.min_le_left _ _
    by_cases hlt : len < size
    · have hkk : 512 * k < size ∧ len = 512 * k := by have := KL.out; omega
      have j0 : decide ((len : Int) < (size : Int)) = true := decide_eq_true (by omega)
      obtain ⟨m, hm⟩ : ∃ m, m = min 512 (size - len) := ⟨_, rfl⟩
      have jm : min (512 : Int) ((size : Int) - (len : Int)) = (m : Int) := by omega
      have HM : Hid (m ≤ 512 ∧ 0 < m ∧ len + m ≤ size ∧ len + m = min size (512 * (k + 1)) ∧ k + 1 ≤ (size + 511) / 512) := by show _ ∧ _; omega
      have HU : Hid (Sk.upto f fr size (k + 1) = Sk.upto f fr size k ++ (f (fr + k)).take m) := Sk.upto_succ f fr size k m (fun i => (HRL.out i).1) (by rw [hm, hkk.2])
      have HC := Lib.hid (HRD.out wr (fr + k) KB.out (by omega))
      have jf : fr + k ≤ 20000 := by omega
      have jz : m ≤ 512 := HM.out.1
      clear hm hkk KL KK
      go_wp2_with fail
      refine HC.out.mono ?_
      clear HC
      rintro e w2 ⟨hb2, g2, rfl, hg2, hh2⟩
      have HB2 := Lib.hid (KB.out.trans (hb2.mono KB.out.size))
      have HX2 := Lib.hid (Has.later KX.out hb2)
      have HO2 := Lib.hid (own_same KO.out (w' := w2) (fun q hq => hb2.block q (KO.out.lt q hq).2))
      have HS2 := Lib.hid ((has_sl hh2 (HRL.out (fr + k)).2 (by rw [(HRL.out (fr + k)).1]; decide) 512 512 (HRL.out (fr + k)).1.symm).take m HM.out.1)
      have HG2 : Hid (w.heap.size + 1 ≤ g2) := Nat.le_trans (Nat.lt_of_le_of_lt (Nat.le_refl _) KX.out.lt) hg2
      clear hb2 hh2 KO KB KX hg2
      have bx3 := HX2.out.cell 2
      go_wp2_with (refine wpList_append_sl rfl (.tmp 34) (.tmp 44) rfl w.heap.size gk cap len _ rfl HO2.out (some ⟨g2, 0, none⟩) m 512 ((f (fr + k)).take m) rfl HS2.out (by omega) HB2.out.size ?_; intro g' cap' w3 ho hg)
      refine ⟨⟨k + 1, len + m, g', cap', rfl, by go_num, HM.out.2.2.2.1, HM.out.2.2.2.2, ?_, ?_, ?_⟩, ?_⟩
      · show w3.ownsRow _ _ _ _ _ _
        rw [HU.out, vb_append]; exact ho.out
      · exact HB2.out.grown hg.out HB2.out.size (fun q e => by cases e; exact (HO2.out.lt gk rfl).1)
      · exact Has.grown HX2.out hg.out (fun e => own_ne_has HO2.out HX2.out (by decide) e.symm)
      · have := HM.out
        show size - (len + m) < size - len
        omega
    · obtain rfl : len = size := by omega
      have hkk : k = (len + 511) / 512 := by have := KL.out; have := KK.out; omega
      have HMN : Hid (Mine wr w.heap.size (some ⟨gk, 0, none⟩) len cap (Sk.upto f fr len ((len + 511) / 512))) := by
        rw [← hkk]
        refine ⟨KO.out, ?_, fun x hx => ?_⟩
        · rw [Sk.upto_length f fr len k (fun i => (HRL.out i).1)]; exact KL.out
        · have : ∀ (k : Nat) (x : Nat), x ∈ Sk.secs f fr k → x < 256 := fun k => by
            induction k with
            | zero => intro x hx; simp [Sk.secs] at hx
            | succ k ih =>
              intro x hx
              simp only [Sk.secs, List.mem_append] at hx
              rcases hx with hx | hx
              · exact ih x hx
              · exact (HRL.out (fr + k)).2 x hx
          exact this k x (List.mem_of_mem_take hx)
      have j0 : decide ((len : Int) < (len : Int)) = false := decide_eq_false (by omega)
      clear hkk KO KL KK hlt hl1
      go_wp2_with fail
      go_ret2
      exact ⟨_, cap, rfl, HMN.out, KB.out⟩
end Go.Proofs.Ythbiibinmofmfaa

/- A region that draws its order, whose operations only read what lies below a bound, and whose calls may make memory, but leave all below that bound as it was: one walk in the text's order. -/
namespace Go.Proofs.Ythbiibinmofmfaa
set_option maxRecDepth 100000
open Go.RowKit

/-- A world that is as W was below B. -/
structure Wd (B : Nat) (W : World) where
  w : World
  h : Below B W w

instance (B : Nat) (W : World) : Nonempty (Wd B W) := ⟨⟨W, Below.refl _ _⟩⟩

theorem region_made {P : Program} {id : Nat} {Q : Exit → Act → World → Prop} {a : Act} {w : World} {l : List Oper} (B : Nat) (W : World) (hm : P.follows .mixedOrders = true) (hB : Region.lexB .any l.toArray = true)
    (hC : Below B W w) (h : wpQuiet P l.toArray (fun w' => ∃ x : Wd B W, w' = x.w) (fun a' => ∀ x : Wd B W, Q .normal a' x.w) l a) : (Code.region id l.toArray true).wp P Q a w := by
  refine wp_region_quiet (C := fun w' => ∃ x : Wd B W, w' = x.w) hm hB ⟨⟨_, hC.drew⟩, rfl⟩ ?_
  have : (fun a' => ∀ w', (∃ x : Wd B W, w' = x.w) → Q .normal a' w') = fun a' => ∀ x : Wd B W, Q .normal a' x.w := by
    funext a'
    exact propext ⟨fun h x => h _ ⟨x, rfl⟩, fun h w' ⟨x, e⟩ => e ▸ h x⟩
  rw [this]
  simpa using h

/-- A contract at a call within such a region. -/
theorem made_call {P : Program} {f : FuncId} {args : Array Value} {B : Nat} {W : World} {v : Value} (x : Wd B W) (hB : B ≤ W.heap.size)
    (h : Calls P f args x.w fun e w' => e = .returned v ∧ Below x.w.heap.size x.w w') : Calls P f args x.w fun e w'' => e = .returned v ∧ ∃ y : Wd B W, w'' = y.w :=
  h.mono fun _ w' ⟨he, hb⟩ => ⟨he, ⟨w', x.h.trans (hb.mono (by have := x.h.size; omega))⟩, rfl⟩

/-- A cell below the bound. -/
theorem Wd.cell {B : Nat} {W : World} (x : Wd B W) {b o : Nat} (hb : b < B) : x.w.cell? ⟨b, o, none⟩ = W.cell? ⟨b, o, none⟩ := x.h.cell (p := ⟨b, o, none⟩) hb
end Go.Proofs.Ythbiibinmofmfaa
