/- Streams and how much may be told: a greater most changes nothing; one too small is too little. -/
import Derived.Test.YtgbojpakddjhlaaGreatDoorIpst
import Derived.Test.YtgbojpakddjhlaaGreatDoorIlives
import Derived.Test.YtgbojpakddjhlaaGreatDoorHcmp
import Derived.ChangeSame
import Derived.ChangeVars
import Derived.JoinedOf
import Derived.LaidLaws
import Derived.LaidHandle
import Derived.LaidMore
import Derived.OpenShut
import Derived.Stop.Joined
import Derived.ProofKit
import Derived.SizedLaws
import Derived.Lib.SmallJoins

namespace Go.Proofs.YtgbojpakddjhlaaGreatDoor
set_option maxRecDepth 100000
namespace If
open Hd (num rd head)

/-- Told with another most: the same, where it is enough; else too much. -/
def Mo (m : Nat) (r r' : List Nat × Nat × Int) : Prop := (r.1.length ≤ m → r' = r) ∧ (m < r.1.length → r'.2.2 = 3)

theorem copy_most {l : List Bool} {dist : List Nat} {most s p : Nat} {out : List Nat} (m : Nat) (h : (copy l dist most s p out).2.2 = 0) : out.length < (copy l dist most s p out).1.length + 1 ∧ Mo m (copy l dist most s p out) (copy l dist m s p out) := by
  unfold copy at h ⊢
  by_cases h1 : 286 ≤ s
  · rw [if_pos h1] at h; simp at h
  rw [if_neg h1] at h ⊢
  rw [if_neg h1]
  by_cases h2 : l.length < p + Sy.at' Sy.lb (s - 257)
  · rw [if_pos h2] at h; simp at h
  rw [if_neg h2] at h ⊢
  rw [if_neg h2]
  by_cases h3 : ∀ x ∈ dist, x = 0
  · rw [if_pos h3] at h; simp at h
  rw [if_neg h3] at h ⊢
  rw [if_neg h3]
  generalize rd dist l (p + Sy.at' Sy.lb (s - 257)) = r at h ⊢
  obtain ⟨y, q, c⟩ := r
  simp only at h ⊢
  by_cases h4 : c ≠ 0
  · rw [if_pos h4] at h; exact absurd h h4
  rw [if_neg h4] at h ⊢
  rw [if_neg h4]
  by_cases h5 : 30 ≤ y
  · rw [if_pos h5] at h; simp at h
  rw [if_neg h5] at h ⊢
  rw [if_neg h5]
  by_cases h6 : l.length < q + Sy.at' Sy.db y
  · rw [if_pos h6] at h; simp at h
  rw [if_neg h6] at h ⊢
  rw [if_neg h6]
  by_cases h7 : out.length < Sy.at' Sy.df y + num l q (Sy.at' Sy.db y)
  · rw [if_pos h7] at h; simp at h
  rw [if_neg h7] at h ⊢
  rw [if_neg h7]
  generalize Sy.at' Sy.lf (s - 257) + num l p (Sy.at' Sy.lb (s - 257)) = n at h ⊢
  by_cases h8 : most < out.length + n
  · rw [if_pos h8] at h; simp at h
  rw [if_neg h8]
  have hl := cp_length (Sy.at' Sy.df y + num l q (Sy.at' Sy.db y)) n out
  refine ⟨by simp only; omega, fun hm => ?_, fun hm => ?_⟩
  · simp only at hm
    rw [if_neg (by omega)]
  · simp only at hm
    rw [if_pos (by omega)]

theorem syms_len {l : List Bool} {lit dist : List Nat} {most : Nat} : ∀ (k : Nat) (out : List Nat) (p : Nat), (syms l lit dist most k out p).2.2 = 0 → out.length ≤ (syms l lit dist most k out p).1.length := by
  intro k
  induction k with
  | zero => intro out p _; exact Nat.le_refl _
  | succ k ih =>
    intro out p h
    simp only [syms] at h ⊢
    generalize rd lit l p = r at h ⊢
    obtain ⟨y, q, c⟩ := r
    simp only at h ⊢
    by_cases h1 : c ≠ 0
    · rw [if_pos h1] at h; exact absurd h h1
    rw [if_neg h1] at h ⊢
    by_cases h2 : y = 256
    · rw [if_pos h2]; exact Nat.le_refl _
    rw [if_neg h2] at h ⊢
    by_cases h3 : 256 < y
    · rw [if_pos h3] at h ⊢
      by_cases h4 : (copy l dist most y q out).2.2 ≠ 0
      · rw [if_pos h4] at h; exact absurd h h4
      rw [if_neg h4] at h ⊢
      have := (copy_most 0 (by simpa using h4 : (copy l dist most y q out).2.2 = 0)).1
      have := ih _ _ h
      omega
    rw [if_neg h3] at h ⊢
    by_cases h5 : most ≤ out.length
    · rw [if_pos h5] at h; simp at h
    rw [if_neg h5] at h ⊢
    have := ih _ _ h
    rw [List.length_append] at this
    omega

theorem syms_most {l : List Bool} {lit dist : List Nat} {most : Nat} (m : Nat) : ∀ (k : Nat) (out : List Nat) (p : Nat), out.length ≤ m → (syms l lit dist most k out p).2.2 = 0 → Mo m (syms l lit dist most k out p) (syms l lit dist m k out p) := by
  intro k
  induction k with
  | zero => intro out p ho _; exact ⟨fun _ => rfl, fun h => by simp only [syms] at h; omega⟩
  | succ k ih =>
    intro out p ho h
    simp only [syms] at h ⊢
    generalize rd lit l p = r at h ⊢
    obtain ⟨y, q, c⟩ := r
    simp only at h ⊢
    by_cases h1 : c ≠ 0
    · rw [if_pos h1] at h; exact absurd h h1
    rw [if_neg h1] at h ⊢
    rw [if_neg h1]
    by_cases h2 : y = 256
    · rw [if_pos h2, if_pos h2]; exact ⟨fun _ => rfl, fun h => by simp only at h; omega⟩
    rw [if_neg h2] at h ⊢
    rw [if_neg h2]
    by_cases h3 : 256 < y
    · rw [if_pos h3] at h ⊢
      rw [if_pos h3]
      by_cases h4 : (copy l dist most y q out).2.2 ≠ 0
      · rw [if_pos h4] at h; exact absurd h h4
      rw [if_neg h4] at h ⊢
      have hc := copy_most m (by simpa using h4 : (copy l dist most y q out).2.2 = 0)
      have hlen := syms_len k _ _ h
      by_cases g : (copy l dist most y q out).1.length ≤ m
      · rw [hc.2.1 g, if_neg h4]
        exact ih _ _ g h
      · have h33 := hc.2.2 (by omega)
        rw [if_pos (show (copy l dist m y q out).2.2 ≠ 0 by rw [h33]; decide)]
        exact ⟨fun h => by omega, fun _ => h33⟩
    rw [if_neg h3] at h ⊢
    rw [if_neg h3]
    by_cases h5 : most ≤ out.length
    · rw [if_pos h5] at h; simp at h
    rw [if_neg h5] at h ⊢
    have hlen := syms_len k _ _ h
    rw [List.length_append] at hlen
    by_cases g : m ≤ out.length
    · rw [if_pos g]; exact ⟨fun h => by simp at hlen; omega, fun _ => rfl⟩
    rw [if_neg g]
    exact ih _ _ (by rw [List.length_append]; simp; omega) h

theorem stored_most {l : List Bool} {most p : Nat} {out : List Nat} (m : Nat) (h : (stored l most p out).2.2 = 0) : out.length ≤ (stored l most p out).1.length ∧ Mo m (stored l most p out) (stored l m p out) := by
  unfold stored at h ⊢
  by_cases h1 : l.length < up p + 32
  · rw [if_pos h1] at h; simp at h
  rw [if_neg h1] at h ⊢
  rw [if_neg h1]
  by_cases h2 : num l (up p) 16 + num l (up p + 16) 16 ≠ 65535 ∨ num l (up p) 16 &&& num l (up p + 16) 16 ≠ 0
  · rw [if_pos h2] at h; simp at h
  rw [if_neg h2] at h ⊢
  rw [if_neg h2]
  by_cases h3 : most < out.length + num l (up p) 16
  · rw [if_pos h3] at h; simp at h
  rw [if_neg h3] at h ⊢
  by_cases h4 : l.length < up p + 32 + 8 * num l (up p) 16
  · rw [if_pos h4] at h; simp at h
  rw [if_neg h4]
  refine ⟨by simp, fun hm => ?_, fun hm => ?_⟩
  · simp only [List.length_append, List.length_map, List.length_range] at hm
    rw [if_neg (by omega)]
  · simp only [List.length_append, List.length_map, List.length_range] at hm
    rw [if_pos (by omega)]

theorem dynamic_most {l : List Bool} {most p : Nat} {out : List Nat} (m : Nat) (h : (dynamic l most p out).2.2 = 0) : out.length ≤ (dynamic l most p out).1.length ∧ (out.length ≤ m → Mo m (dynamic l most p out) (dynamic l m p out)) := by
  unfold dynamic at h ⊢
  by_cases h1 : (head l p).2.2.2 ≠ 0
  · rw [if_pos h1] at h; exact absurd h h1
  rw [if_neg h1] at h ⊢
  rw [if_neg h1]
  by_cases h2 : (head l p).1[256]?.getD 0 = 0
  · rw [if_pos h2] at h; simp at h
  rw [if_neg h2] at h ⊢
  rw [if_neg h2]
  by_cases h3 : newE (Hd.zz (head l p).1) ≠ 0
  · rw [if_pos h3] at h; exact absurd h h3
  rw [if_neg h3] at h ⊢
  rw [if_neg h3]
  by_cases h4 : newE (Hd.zz (head l p).2.1) ≠ 0 ∧ ¬ (∀ x ∈ (head l p).2.1, x = 0)
  · rw [if_pos h4] at h; exact absurd h h4.1
  rw [if_neg h4] at h ⊢
  rw [if_neg h4]
  exact ⟨syms_len _ _ _ h, fun ho => syms_most m _ _ _ ho h⟩

theorem block_most {l : List Bool} {most p : Nat} {out : List Nat} (m : Nat) (h : (block l most p out).2.2 = 0) : out.length ≤ (block l most p out).1.length ∧ (out.length ≤ m → Mo m (block l most p out) (block l m p out)) := by
  unfold block at h ⊢
  by_cases h1 : l.length < p + 3
  · rw [if_pos h1] at h; simp at h
  rw [if_neg h1] at h ⊢
  rw [if_neg h1]
  by_cases h2 : num l (p + 1) 2 = 0
  · rw [if_pos h2] at h ⊢; rw [if_pos h2]; exact ⟨(stored_most m h).1, fun _ => (stored_most m h).2⟩
  rw [if_neg h2] at h ⊢
  rw [if_neg h2]
  by_cases h3 : num l (p + 1) 2 = 1
  · rw [if_pos h3] at h ⊢; rw [if_pos h3]; exact ⟨syms_len _ _ _ h, fun ho => syms_most m _ _ _ ho h⟩
  rw [if_neg h3] at h ⊢
  rw [if_neg h3]
  by_cases h4 : num l (p + 1) 2 = 2
  · rw [if_pos h4] at h ⊢; rw [if_pos h4]; exact dynamic_most m h
  rw [if_neg h4] at h; simp at h

theorem blocks_len {l : List Bool} {most : Nat} : ∀ (k : Nat) (out : List Nat) (p : Nat), (blocks l most k out p).2.2 = 0 → out.length ≤ (blocks l most k out p).1.length := by
  intro k
  induction k with
  | zero => intro out p _; exact Nat.le_refl _
  | succ k ih =>
    intro out p h
    simp only [blocks] at h ⊢
    by_cases h1 : (block l most p out).2.2 ≠ 0
    · rw [if_pos h1] at h; exact absurd h h1
    rw [if_neg h1] at h ⊢
    have hb := (block_most 0 (by simpa using h1 : (block l most p out).2.2 = 0)).1
    by_cases h2 : num l p 1 = 1
    · rw [if_pos h2]; exact hb
    rw [if_neg h2] at h ⊢
    have := ih _ _ h
    omega

theorem blocks_most {l : List Bool} {most : Nat} (m : Nat) : ∀ (k : Nat) (out : List Nat) (p : Nat), out.length ≤ m → (blocks l most k out p).2.2 = 0 → Mo m (blocks l most k out p) (blocks l m k out p) := by
  intro k
  induction k with
  | zero => intro out p ho _; exact ⟨fun _ => rfl, fun h => by simp only [blocks] at h; omega⟩
  | succ k ih =>
    intro out p ho h
    have hbl := blocks_len (k + 1) out p h
    simp only [blocks] at h hbl ⊢
    by_cases h1 : (block l most p out).2.2 ≠ 0
    · rw [if_pos h1] at h; exact absurd h h1
    rw [if_neg h1] at h hbl ⊢
    have h1' : (block l most p out).2.2 = 0 := by simpa using h1
    have hb := (block_most m h1').2 ho
    by_cases g : (block l most p out).1.length ≤ m
    · rw [hb.1 g, if_neg h1]
      by_cases h2 : num l p 1 = 1
      · rw [if_pos h2, if_pos h2]; exact ⟨fun _ => rfl, fun h => by simp only at h; omega⟩
      rw [if_neg h2] at h ⊢
      rw [if_neg h2]
      exact ih _ _ g h
    · have h33 := hb.2 (by omega)
      rw [if_pos (show (block l m p out).2.2 ≠ 0 by rw [h33]; decide)]
      refine ⟨fun hq => ?_, fun _ => h33⟩
      exfalso
      by_cases h2 : num l p 1 = 1
      · rw [if_pos h2] at hq; exact g hq
      · rw [if_neg h2] at h hq
        have := blocks_len k _ _ h
        omega

/-- With another most the same is told, where there is room; else it is too much. -/
theorem decode_most {l : List Bool} {most : Int} (m : Int) (h0 : 0 ≤ m) (h9 : m ≤ 65536) (h : (decode l most).2.2 = 0) :
    (((decode l most).1.length : Int) ≤ m → decode l m = decode l most) ∧ (m < ((decode l most).1.length : Int) → decode l m = ([], 0, 3)) := by
  unfold decode at h ⊢
  by_cases h1 : most < 0 ∨ 65536 < most
  · rw [if_pos h1] at h; simp at h
  rw [if_neg h1] at h ⊢
  rw [if_neg (by omega : ¬ (m < 0 ∨ 65536 < m))]
  by_cases h2 : (blocks l most.toNat (l.length + 1) [] 0).2.2 ≠ 0
  · rw [if_pos h2] at h; exact absurd h h2
  rw [if_neg h2]
  have hc := blocks_most m.toNat (l.length + 1) [] 0 (Nat.zero_le _) (by simpa using h2 : (blocks l most.toNat (l.length + 1) [] 0).2.2 = 0)
  simp only
  constructor
  · intro hq
    rw [hc.1 (by omega), if_neg h2]
  · intro hq
    have := hc.2 (by omega)
    rw [this, if_pos (by decide)]
end If
end Go.Proofs.YtgbojpakddjhlaaGreatDoor

/- Walks of InflateMost's ways. -/
namespace Go.Proofs.YtgbojpakddjhlaaGreatDoor
set_option maxRecDepth 100000
open Go.RowKit

namespace If
theorem decode_bad {l : List Bool} {most : Int} {out : List Nat} {n : Nat} {c : Int} (h : decode l most = (out, n, c)) (hc : c ≠ 0) : out = [] ∧ n = 0 := by
  unfold decode at h
  by_cases h1 : most < 0 ∨ 65536 < most
  · rw [if_pos h1] at h
    exact ⟨(Prod.mk.inj h).1.symm, (Prod.mk.inj (Prod.mk.inj h).2).1.symm⟩
  rw [if_neg h1] at h
  by_cases h2 : (blocks l most.toNat (l.length + 1) [] 0).2.2 ≠ 0
  · rw [if_pos h2] at h
    exact ⟨(Prod.mk.inj h).1.symm, (Prod.mk.inj (Prod.mk.inj h).2).1.symm⟩
  · rw [if_neg h2] at h
    exact absurd (Prod.mk.inj (Prod.mk.inj h).2).2.symm hc
end If

/-- Whatever is beyond what the statement looks at. -/
theorem tail_lives {w w1 : World} (hb : Below w.heap.size w w1) (hg : GG w) : Calls Tryz.prog 9 #[] w1 fun e w' => e = .returned (.bool true) ∧ Below w.heap.size w w' :=
  (lives_any w1 (hg.later hb)).mono fun _ _ h => ⟨h.1, hb.trans (h.2.mono hb.size)⟩

set_option maxHeartbeats 8000000 in
theorem most_beyond (a : Option Addr) (len cap : Nat) (most : Int) (w : World) (hg : GG w) (h : 3000 < len ∨ most < 0 ∨ 65536 < most) :
    Calls Tryz.prog 6 #[.slice a len cap, .int .i64 most] w fun e w' => e = .returned (.bool true) ∧ Below w.heap.size w w' := by
  have HL := Lib.hid (tail_lives (Below.refl w.heap.size w) hg)
  clear hg
  by_cases h1 : 3000 < len
  · have d1 : decide ((3000 : Int) < (len : Int)) = true := by simp; omega
    have d1' : decide (3000 < len) = true := by simp; omega
    clear h
    go_enter Tryz.func6, Tryz.ntmps6
    go_wp2_with fail
    refine HL.out.mono ?_
    rintro e w' ⟨rfl, hb⟩
    have HB := Lib.hid hb
    clear hb HL
    go_wp2
    go_ret
    exact ⟨rfl, HB.out⟩
  have d1 : decide ((3000 : Int) < (len : Int)) = false := by simp; omega
  have d1' : decide (3000 < len) = false := by simp; omega
  by_cases h2 : most < 0
  · have d2 : decide (most < 0) = true := by simpa using h2
    clear h
    go_enter Tryz.func6, Tryz.ntmps6
    go_wp2_with fail
    refine HL.out.mono ?_
    rintro e w' ⟨rfl, hb⟩
    have HB := Lib.hid hb
    clear hb HL
    go_wp2
    go_ret
    exact ⟨rfl, HB.out⟩
  · have d2 : decide (most < 0) = false := by simp; omega
    have d3 : decide (65536 < most) = true := by simp; omega
    clear h
    go_enter Tryz.func6, Tryz.ntmps6
    go_wp2_with fail
    refine HL.out.mono ?_
    rintro e w' ⟨rfl, hb⟩
    have HB := Lib.hid hb
    clear hb HL
    go_wp2
    go_ret
    exact ⟨rfl, HB.out⟩

set_option maxHeartbeats 8000000 in
theorem most_bad (a : Option Addr) (len cap : Nat) (bs : List Nat) (most : Int) (w : World) (hs : Sl w (.slice a len cap) bs) (hg : GG w) (h1 : len ≤ 3000) (h2 : 0 ≤ most) (h3 : most ≤ 65536) (c : Int) (hc : c ≠ 0) (hd : If.decode (If.bb bs) most = ([], 0, c)) :
    Calls Tryz.prog 6 #[.slice a len cap, .int .i64 most] w fun e w' => e = .returned (.bool true) ∧ Below w.heap.size w w' := by
  have hlen := hs.len.1
  have HD := Lib.hid (dec_is _ bs most w hs (by omega) hg _ _ _ hd)
  have HG := Lib.hid hg
  have d1 : decide ((3000 : Int) < (len : Int)) = false := by simp; omega
  have d1' : decide (3000 < len) = false := by simp; omega
  have d2 : decide (most < 0) = false := by simp; omega
  have d3 : decide (65536 < most) = false := by simp; omega
  have d4 : (c != 0) = true := by rw [bne_iff_ne]; exact hc
  clear hg hs hlen hd hc
  go_enter Tryz.func6, Tryz.ntmps6
  go_wp2_with fail
  refine HD.out.mono ?_
  clear HD
  rintro e w1 ⟨a1, c1, rfl, hs1, hb1, _, _⟩
  have HL := Lib.hid (tail_lives hb1 HG.out)
  clear hs1 hb1
  go_wp2_with fail
  refine HL.out.mono ?_
  rintro e w' ⟨rfl, hb⟩
  have HB := Lib.hid hb
  clear hb HL
  go_wp2
  go_ret
  exact ⟨rfl, HB.out⟩

set_option maxHeartbeats 8000000 in
theorem most_good (a : Option Addr) (len cap : Nat) (bs : List Nat) (most : Int) (w : World) (hs : Sl w (.slice a len cap) bs) (hg : GG w) (h1 : len ≤ 3000) (h2 : 0 ≤ most) (h3 : most ≤ 65536) (out : List Nat) (n : Nat) (hd : If.decode (If.bb bs) most = (out, n, 0)) :
    Calls Tryz.prog 6 #[.slice a len cap, .int .i64 most] w fun e w' => e = .returned (.bool true) ∧ Below w.heap.size w w' := by
  have hlen := hs.len.1
  have hmm := fun m h0 h9 => If.decode_most (l := If.bb bs) (most := most) m h0 h9 (by rw [hd])
  rw [hd] at hmm
  simp only at hmm
  have hle : (out.length : Int) ≤ most := by
    rcases Int.lt_or_le most (out.length : Int) with h | h
    · have := (hmm most h2 h3).2 h
      rw [hd] at this
      simp at this
    · exact h
  have e1 := (hmm 65536 (by omega) (by omega)).1 (by omega)
  have e2 := (hmm (out.length : Int) (by omega) (by omega)).1 (by omega)
  have e3 := fun h : 0 < out.length => (hmm ((out.length : Int) - 1) (by omega) (by omega)).2 (by omega)
  have HD1 := Lib.hid (dec_is _ bs most w hs (by omega) hg _ _ _ hd)
  have HD2 := Lib.hid (fun W (hb : Below w.heap.size w W) => dec_is _ bs 65536 W (hs.later hb) (by omega) (hg.later hb) _ _ _ e1)
  have HD3 := Lib.hid (fun W (hb : Below w.heap.size w W) => dec_is _ bs (out.length : Int) W (hs.later hb) (by omega) (hg.later hb) _ _ _ e2)
  have HD4 := Lib.hid (fun (h : 0 < out.length) W (hb : Below w.heap.size w W) => dec_is _ bs ((out.length : Int) - 1) W (hs.later hb) (by omega) (hg.later hb) _ _ _ (e3 h))
  have HG := Lib.hid hg
  have d1 : decide ((3000 : Int) < (len : Int)) = false := by simp; omega
  have d1' : decide (3000 < len) = false := by simp; omega
  have d2 : decide (most < 0) = false := by simp; omega
  have d3 : decide (65536 < most) = false := by simp; omega
  obtain ⟨q, hq⟩ : ∃ q, q = out.length := ⟨_, rfl⟩
  rw [← hq] at HD1 HD2 HD3 HD4 hle
  have d4 : decide (most < (q : Int)) = false := by simp; omega
  have hq9 : (q : Int) ≤ 65536 := by omega
  obtain ⟨S, hS⟩ : ∃ S, S = strB out := ⟨_, rfl⟩
  have HS := Lib.hid hS
  clear hg hs hlen hd hmm e1 e2 e3 hq hS hle
  go_enter Tryz.func6, Tryz.ntmps6
  go_wp2_with fail
  refine HD1.out.mono ?_
  clear HD1
  rintro e w1 ⟨a1, c1, rfl, hs1, hb1, _, _⟩
  have HS1 := Lib.hid hs1
  have HB1 := Lib.hid hb1
  clear hs1 hb1
  go_wp2_with fail
  refine (HD2.out _ HB1.out).mono ?_
  clear HD2
  rintro e w2 ⟨a2, c2, rfl, hs2, hb2, _, _⟩
  have HS1b := Lib.hid (HS1.out.later hb2)
  have HS2 := Lib.hid hs2
  have HB2 := Lib.hid (HB1.out.trans (hb2.mono HB1.out.size))
  clear hs2 hb2 HS1 HB1
  go_wp2_with fail
  refine (HD3.out _ HB2.out).mono ?_
  clear HD3
  rintro e w3 ⟨a3, c3, rfl, hs3, hb3, _, _⟩
  have r1 := string_of w3 a1 q c1 _ S (HS1b.out.later hb3) HS.out
  have r2 := string_of w3 a2 q c2 _ S (HS2.out.later hb3) HS.out
  have r3 := string_of w3 a3 q c3 _ S hs3 HS.out
  have HB3 := Lib.hid (HB2.out.trans (hb3.mono HB2.out.size))
  clear hs3 hb3 HS1b HS2 HB2
  have HL := Lib.hid (tail_lives HB3.out HG.out)
  by_cases h0 : q = 0
  · subst h0
    clear HD4
    go_wp2_with fail
    refine HL.out.mono ?_
    rintro e w' ⟨rfl, hb⟩
    have HB := Lib.hid hb
    clear hb HL
    go_wp2
    go_ret
    exact ⟨rfl, HB.out⟩
  · have d5 : ((q : Int) == 0) = false := by simp; omega
    have d6 : (q == 0) = false := by simp; omega
    have HD5 := Lib.hid (HD4.out (by omega) _ HB3.out)
    clear HD4 HL
    go_wp2_with fail
    refine HD5.out.mono ?_
    clear HD5
    rintro e w4 ⟨a4, c4, rfl, hs4, hb4, _, _⟩
    have HL := Lib.hid (tail_lives (HB3.out.trans (hb4.mono HB3.out.size)) HG.out)
    clear hs4 hb4 r1 r2 r3
    go_wp2_with fail
    refine HL.out.mono ?_
    rintro e w' ⟨rfl, hb⟩
    have HB := Lib.hid hb
    clear hb HL
    go_wp2
    go_ret
    exact ⟨rfl, HB.out⟩
end Go.Proofs.YtgbojpakddjhlaaGreatDoor

/- What a tied row's condition gives: both package-level variables, opened; a world that meets it. -/
namespace Go.Proofs.YtgbojpakddjhlaaGreatDoor
set_option maxRecDepth 100000
open Go.ChangeShapes Go.WideShapes Go.ChangeAt Go.WideElems Go.RowKit

abbrev laid2 : List (String × DataW Unit) := [("errors.errorType", Rows.laid_errors_errorType), ("valise/header.order", Rows.laid_valise_header_order)]

theorem g_et : Tryz.prog.globalNamed "errors.errorType" = some 0 := by kernel_rfl
theorem g_ord : Tryz.prog.globalNamed "valise/header.order" = some 1 := by kernel_rfl
theorem t_ord : (Tryz.prog.globals[1]?).map (·.type) = some 190 := by kernel_rfl
theorem t_rt : (Tryz.prog.cutTypes.find? (·.1 == "internal/reflectlite.rtype")).map (·.2) = some 113 := by kernel_rfl
theorem n_types : Tryz.prog.types.size = 228 := by kernel_rfl
theorem one_row : ((List.range 228).filter fun t => Tryz.prog.rowNamed t [101, 114, 114, 111, 114]) = [69] := by kernel_rfl

theorem door_met (os : Os) (args : Array Value) : laidMetH Tryz.prog laid2 ((World.doorLaid Tryz.prog 400 os).forCall (fun _ _ => 0) ⟨#[], args, []⟩).memory :=
  laidMetH_of_parts (laidMet_of_run' 8 (by kernel_rfl) (by kernel_rfl)) (by kernel_rfl)

theorem ord_is (k : Nat) (hk : k < 19) (x : DataW Unit × List MemPlace) (xs : List (DataW Unit × List MemPlace)) (hx : xs[k]? = some x) (h : (.agg (xs.map (·.1)) : DataW Unit) = Rows.laid_valise_header_order) : x.1 = .lit (.int .i64 (Hd.ord k : Int)) := by
  unfold Rows.laid_valise_header_order at h
  injection h with h
  have h2 : (xs.map (·.1))[k]? = some x.1 := by rw [List.getElem?_map, hx]; rfl
  rw [h] at h2
  match k, hk with
  | 0, _ => exact (Option.some.inj h2).symm
  | 1, _ => exact (Option.some.inj h2).symm
  | 2, _ => exact (Option.some.inj h2).symm
  | 3, _ => exact (Option.some.inj h2).symm
  | 4, _ => exact (Option.some.inj h2).symm
  | 5, _ => exact (Option.some.inj h2).symm
  | 6, _ => exact (Option.some.inj h2).symm
  | 7, _ => exact (Option.some.inj h2).symm
  | 8, _ => exact (Option.some.inj h2).symm
  | 9, _ => exact (Option.some.inj h2).symm
  | 10, _ => exact (Option.some.inj h2).symm
  | 11, _ => exact (Option.some.inj h2).symm
  | 12, _ => exact (Option.some.inj h2).symm
  | 13, _ => exact (Option.some.inj h2).symm
  | 14, _ => exact (Option.some.inj h2).symm
  | 15, _ => exact (Option.some.inj h2).symm
  | 16, _ => exact (Option.some.inj h2).symm
  | 17, _ => exact (Option.some.inj h2).symm
  | 18, _ => exact (Option.some.inj h2).symm

/-- What the condition gives a walk. -/
theorem gg_of_laid {W : World} (h : laidMetH Tryz.prog laid2 W) : GG W := by
  have h' : laidMet Tryz.prog [("valise/header.order", Rows.laid_valise_header_order)] W ∧ handlesMet Tryz.prog [("errors.errorType", Rows.laid_errors_errorType)] W := h
  obtain ⟨hd, hh⟩ := h'
  constructor
  · obtain ⟨ps, ⟨g0, t0, cs0, f0, p0, q0, hg0, ht0, hv0, hd0, _, _⟩, _, _⟩ := hd
    obtain rfl := Option.some.inj (g_ord.symm.trans hg0)
    obtain rfl := Option.some.inj (t_ord.symm.trans ht0)
    obtain ⟨xs, m1, rfl, hx1, hlen, hn3, hel⟩ := DataW.trod_array Tryz.underlying190 hd0
    have c3 : Tryz.prog.cellsOf 3 = 1 := by kernel_rfl
    simp only [Prod.mk.injEq] at hx1
    intro k hk
    have h0 := hel k hk
    have hxk := List.getElem?_eq_getElem (show k < xs.length by omega)
    rw [hxk] at h0
    have ho := ord_is k hk _ xs hxk hx1.1.symm
    obtain ⟨n, e1, e2, _⟩ := DataW.trod_int Tryz.underlying3 h0
    rw [e2] at ho
    have hn : n = (Hd.ord k : Int) := by simpa using ho
    subst hn
    rw [c3] at e1
    have hcell := World.var?_cell hg0 hv0 k
    rw [hcell]
    have : cs0.toList[k]? = some (.int .i64 (Hd.ord k : Int)) := by
      have h1 : ((cs0.toList.drop (k * 1)).take 1)[0]? = some (.int .i64 (Hd.ord k : Int)) := by rw [e1]; rfl
      rw [List.getElem?_take_of_lt (by omega), List.getElem?_drop] at h1
      simpa using h1
    simpa using this
  · obtain ⟨name, u, ty, e1, e2, e3, e4, e5⟩ := hh _ (List.mem_singleton.2 rfl)
    have en : name = [101, 114, 114, 111, 114] := (Option.some.inj e1).symm
    subst en
    obtain rfl := Option.some.inj (t_rt.symm.trans e2)
    have hm : ty ∈ (List.range 228).filter fun t => Tryz.prog.rowNamed t [101, 114, 114, 111, 114] := List.mem_filter.2 ⟨List.mem_range.2 (by rw [← n_types]; exact e3), e4⟩
    rw [one_row] at hm
    obtain rfl := List.mem_singleton.1 hm
    have hh2 : typeHandle Tryz.prog 69 = .pointer (some ⟨2, 69, none⟩) := by kernel_rfl
    rw [hh2] at e5
    unfold GlobE
    simpa using World.var?_cell g_et e5 0
end Go.Proofs.YtgbojpakddjhlaaGreatDoor

/- How the arguments of the statements read: slices of bytes, numbers. -/
namespace Go.Proofs.YtgbojpakddjhlaaGreatDoor
set_option maxRecDepth 100000
open Go.ChangeShapes Go.WideShapes Go.ChangeAt Go.RowKit Go.Joins

theorem Tryz.cellsU8 : Tryz.prog.cellsOf 5 = 1 := by kernel_rfl
theorem Tryz.bytesU8 : Tryz.prog.bytesOf 5 = 1 := by kernel_rfl
theorem Tryz.own : ownKnob Tryz.prog.godebug = none := by kernel_rfl
theorem Tryz.laidOut : laidOutB Tryz.prog = true := by kernel_rfl

theorem wf_bounds {n : Int} (h : (Lit.int .i64 n).wf = true) : -9223372036854775808 ≤ n ∧ n ≤ 9223372036854775807 := by
  have := bounds_i64 h
  omega

theorem wf_u8 {n : Int} (h : (Lit.int .u8 n).wf = true) : 0 ≤ n ∧ n ≤ 255 := by
  have := bounds_u8 h
  omega

/-- A slice of bytes that came in. -/
theorem sl_open {H : Type} {enc : TypeId × Value → H} {W : World} {fuel : Nat} {cs : List Value} {x : DataW H × List MemPlace}
    (h : DataW.trod enc Tryz.prog W 0 (fun _ => true) true fuel 22 cs = some x) (hw : ∀ n ∈ x.1.weights Tryz.prog 22, n ≤ reachBytes) :
    ∃ s bs, cs = [s] ∧ Sl W s bs ∧ bs.length ≤ 140737488351232 := by
  rcases open_ints Tryz.underlying22 Tryz.underlying5 Tryz.cellsU8 h with ⟨rfl, rfl⟩ | ⟨a, len, cap, zs, rfl, _, hl, hm, hz, rfl, hcell, hwz⟩
  · exact ⟨_, [], rfl, Sl.nil W, by simp⟩
  · have hz' : zs.length = cap := by simpa using hz
    have hr : cap ≤ 140737488351232 := by
      have := hw (cap * 1) (by
        simp only [DataW.weights, Tryz.underlying22, Tryz.bytesU8]
        simp [lits, hz']
        left
        omega)
      unfold reachBytes at this
      omega
    refine ⟨_, (zs.take len).map Int.toNat, rfl, ⟨some a, len, cap, rfl, by simp; omega, by omega, fun h => by simp at h, ?_, fun h0 => ?_⟩, by simp; omega⟩
    · intro y hy
      simp only [List.mem_map] at hy
      obtain ⟨z, hz1, rfl⟩ := hy
      have := wf_u8 (hwz z (List.mem_of_mem_take hz1))
      omega
    · obtain ⟨b, off, spot⟩ := a
      have hc0 := hcell 0 (by omega)
      have hspot : spot = none := by simpa [Addr.add] using World.cell?_spot hc0
      subst hspot
      refine ⟨b, off, rfl, ?_, fun i hi => ?_⟩
      · have := World.block_lt_of_cell? W _ hc0
        simpa [Addr.add] using this
      · have hc := hcell i (by omega)
        have e : (⟨b, off, none⟩ : Addr).add i = ⟨b, off + i, none⟩ := by cases i <;> simp [Addr.add]
        rw [e] at hc
        rw [hc]
        have hi' : i < zs.length := by omega
        have := wf_u8 (hwz zs[i] (List.getElem_mem hi'))
        simp [hi, List.getElem?_eq_getElem hi', List.getD]
        omega

/-- A slice of bytes as an argument. -/
theorem bytes_open {H : Type} {enc : TypeId × Value → H} {W : World} {base : Nat} {v : Value} {d : DataW H} {p : List MemPlace} (hv : Value.okWide Tryz.prog W .any base 22 v)
    (h : DataW.Trod enc Tryz.prog W 0 (fun _ => true) true 22 v d p) (hw : ∀ n ∈ d.weights Tryz.prog 22, n ≤ reachBytes) :
    ∃ bs, Sl W v bs ∧ bs.length ≤ 140737488351232 := by
  obtain ⟨a1, len, cap, rfl⟩ := okWide_slice Tryz.underlying22 hv
  obtain ⟨fuel, hf⟩ := h
  obtain ⟨s, bs, e, hs, hl⟩ := sl_open hf hw
  simp [Value.cells] at e
  subst e
  exact ⟨bs, hs, hl⟩

theorem u32_nat {n : Int} (h : (Lit.int .u32 n).wf = true) : ∃ m : Nat, n = (m : Int) ∧ m < 4294967296 := by
  have := bounds_u32 h
  exact ⟨n.toNat, by omega, by omega⟩
end Go.Proofs.YtgbojpakddjhlaaGreatDoor
