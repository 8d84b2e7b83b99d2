/- Streams and what stands behind them: what is told of a row's beginning is told of the row. -/
import Derived.Test.YtgbojpakddjhlaaGreatDoorIpst
import Derived.Test.YtgbojpakddjhlaaGreatDoorHrd
import Derived.Test.YtgbojpakddjhlaaGreatDoorItake2
import Derived.Test.YtgbojpakddjhlaaGreatDoorCarg

namespace Go.Proofs.YtgbojpakddjhlaaGreatDoor
set_option maxRecDepth 100000
namespace If
open Hd (num rd head)

theorem rd_ext_go (ls : List Nat) (l : List Bool) (m p : Nat) (hm : m ≤ l.length) {j : Nat} {r : Nat × Nat × Int} (h : Hf.Rd ls (l.take m) p j r) (hr : r.2.2 = 0) : Hf.Rd ls l p j r := by
  have hlen : (l.take m).length = m := by rw [List.length_take]; omega
  induction h with
  | short j h1 h2 => simp at hr
  | hit j k h1 h2 h3 => exact Hf.Rd.hit j k h1 (by omega) ⟨h3.1, h3.2.1, by rw [← vb_take l m p (j + 1) (by omega)]; exact h3.2.2⟩
  | miss j h1 h2 h3 h4 => simp at hr
  | next j k r h1 h2 h3 h4 h5 ih =>
    exact Hf.Rd.next j k r h1 (by omega) (fun k h => h3 k ⟨h.1, h.2.1, by rw [vb_take l m p (j + 1) (by omega)]; exact h.2.2⟩) ⟨h4.1, h4.2.1, by rw [← vb_take l m p (j + 1) (by omega)]; exact h4.2.2⟩ (ih hr)
  | last => simp at hr
theorem rd_ext {ls : List Nat} {l : List Bool} {m p : Nat} (hm : m ≤ l.length) (hp : p ≤ m) (h : (rd ls (l.take m) p).2.2 = 0) : rd ls l p = rd ls (l.take m) p := by
  have hlen : (l.take m).length = m := by rw [List.length_take]; omega
  obtain ⟨r, hr⟩ := Hd.rd_ex ls (l.take m) p 15 0 rfl (by omega) (by omega)
  have e := Hd.rd_is hr
  rw [e] at h ⊢
  exact Hd.rd_is (rd_ext_go ls l m p hm hr h)

theorem copy_ext {l : List Bool} {dist : List Nat} {most s p m : Nat} {out : List Nat} (hm : m ≤ l.length) (h : (copy (l.take m) dist most s p out).2.2 = 0) : copy l dist most s p out = copy (l.take m) dist most s p out := by
  have hlen : (l.take m).length = m := by rw [List.length_take]; omega
  unfold copy at h ⊢
  rw [hlen] at h ⊢
  by_cases h1 : 286 ≤ s
  · rw [if_pos h1, if_pos h1]
  rw [if_neg h1] at h
  rw [if_neg h1, if_neg h1]
  by_cases h2 : m < p + Sy.at' Sy.lb (s - 257)
  · rw [if_pos h2] at h; simp at h
  rw [if_neg h2] at h
  rw [if_neg h2, if_neg (by omega : ¬ l.length < p + Sy.at' Sy.lb (s - 257))]
  by_cases h3 : ∀ x ∈ dist, x = 0
  · rw [if_pos h3, if_pos h3]
  rw [if_neg h3] at h
  rw [if_neg h3, if_neg h3]
  by_cases h4 : (rd dist (l.take m) (p + Sy.at' Sy.lb (s - 257))).2.2 ≠ 0
  · rw [if_pos h4] at h; exact absurd h h4
  have hrd := rd_ext (ls := dist) (p := p + Sy.at' Sy.lb (s - 257)) hm (by omega) (by simpa using h4)
  rw [hrd, num_take l m p (Sy.at' Sy.lb (s - 257)) (by omega)]
  rw [num_take l m p (Sy.at' Sy.lb (s - 257)) (by omega)] at h
  generalize rd dist (l.take m) (p + Sy.at' Sy.lb (s - 257)) = r at h h4 ⊢
  rw [if_neg h4] at h
  rw [if_neg h4, if_neg h4]
  by_cases h5 : 30 ≤ r.1
  · rw [if_pos h5, if_pos h5]
  rw [if_neg h5] at h
  rw [if_neg h5, if_neg h5]
  by_cases h6 : m < r.2.1 + Sy.at' Sy.db r.1
  · rw [if_pos h6] at h; simp at h
  rw [if_neg h6, if_neg (by omega : ¬ l.length < r.2.1 + Sy.at' Sy.db r.1), num_take l m r.2.1 (Sy.at' Sy.db r.1) (by omega)]

theorem runs_ext {ls : List Nat} {l : List Bool} {n m : Nat} (hm : m ≤ l.length) : ∀ (k : Nat) (acc : List Nat) (p : Nat), p ≤ m → (Hd.runs ls (l.take m) n k acc p).2.2 = 0 → Hd.runs ls l n k acc p = Hd.runs ls (l.take m) n k acc p := by
  have hlen : (l.take m).length = m := by rw [List.length_take]; omega
  intro k
  induction k with
  | zero => intro acc p _ _; rfl
  | succ k ih =>
    intro acc p hp h
    simp only [Hd.runs] at h ⊢
    rw [hlen] at h ⊢
    by_cases a1 : n ≤ acc.length
    · rw [if_pos a1, if_pos a1]
    rw [if_neg a1] at h
    rw [if_neg a1, if_neg a1]
    by_cases a2 : (rd ls (l.take m) p).2.2 ≠ 0
    · rw [if_pos a2] at h; exact absurd h a2
    have hrd := rd_ext hm hp (by simpa using a2)
    rw [hrd]
    generalize rd ls (l.take m) p = r at h a2 ⊢
    rw [if_neg a2] at h
    rw [if_neg a2, if_neg a2]
    by_cases a3 : m < r.2.1 + Hd.ex r.1
    · rw [if_pos a3] at h; simp at h
    rw [if_neg a3] at h
    rw [if_neg a3, if_neg (by omega : ¬ l.length < r.2.1 + Hd.ex r.1)]
    rw [num_take l m r.2.1 (Hd.ex r.1) (by omega)] at h ⊢
    by_cases a4 : (Hd.take acc r.1 (num l r.2.1 (Hd.ex r.1)) n).2 ≠ 0
    · rw [if_pos a4] at h; exact absurd h a4
    rw [if_neg a4] at h
    rw [if_neg a4, if_neg a4]
    exact ih _ _ (by omega) h

theorem head_ext {l : List Bool} {p m : Nat} (hm : m ≤ l.length) (h : (head (l.take m) p).2.2.2 = 0) : head l p = head (l.take m) p := by
  have hlen : (l.take m).length = m := by rw [List.length_take]; omega
  unfold head at h ⊢
  rw [hlen] at h ⊢
  by_cases a1 : m < p + 10
  · rw [if_pos a1] at h; simp at h
  rw [if_neg a1] at h
  rw [if_neg a1, if_neg (by omega : ¬ l.length < p + 10)]
  rw [num_take l m p 5 (by omega), num_take l m (p + 5) 5 (by omega)] at h ⊢
  by_cases a2 : 286 < num l p 5 + 257 ∨ 30 < num l (p + 5) 5 + 1
  · rw [if_pos a2, if_pos a2]
  rw [if_neg a2] at h
  rw [if_neg a2, if_neg a2]
  by_cases a3 : m < p + 14
  · rw [if_pos a3] at h; simp at h
  rw [if_neg a3] at h
  rw [if_neg a3, if_neg (by omega : ¬ l.length < p + 14)]
  rw [num_take l m (p + 10) 4 (by omega)] at h ⊢
  by_cases a4 : m < p + 14 + 3 * (num l (p + 10) 4 + 4)
  · rw [if_pos a4] at h; simp at h
  rw [if_neg a4] at h
  rw [if_neg a4, if_neg (by omega : ¬ l.length < p + 14 + 3 * (num l (p + 10) 4 + 4))]
  rw [cl_take l m (p + 14) (num l (p + 10) 4 + 4) (by omega)] at h ⊢
  generalize Hd.cl l (p + 14) (num l (p + 10) 4 + 4) = ls at h ⊢
  by_cases a5 : newE (Hd.zz ls) ≠ 0
  · rw [if_pos a5, if_pos a5]
  rw [if_neg a5] at h
  rw [if_neg a5, if_neg a5]
  by_cases a6 : (Hd.runs ls (l.take m) (num l p 5 + 257 + (num l (p + 5) 5 + 1)) 400 [] (p + 14 + 3 * (num l (p + 10) 4 + 4))).2.2 ≠ 0
  · rw [if_pos a6] at h; exact absurd h a6
  rw [runs_ext hm 400 [] _ (by omega) (by simpa using a6)]

theorem stored_ext {l : List Bool} {most p m : Nat} {out : List Nat} (hm : m ≤ l.length) (h : (stored (l.take m) most p out).2.2 = 0) : stored l most p out = stored (l.take m) most p out := by
  have hlen : (l.take m).length = m := by rw [List.length_take]; omega
  unfold stored at h ⊢
  rw [hlen] at h ⊢
  by_cases a1 : m < up p + 32
  · rw [if_pos a1] at h; simp at h
  rw [if_neg a1] at h
  rw [if_neg a1, if_neg (by omega : ¬ l.length < up p + 32)]
  rw [num_take l m (up p) 16 (by omega), num_take l m (up p + 16) 16 (by omega)] at h ⊢
  by_cases a2 : num l (up p) 16 + num l (up p + 16) 16 ≠ 65535 ∨ num l (up p) 16 &&& num l (up p + 16) 16 ≠ 0
  · rw [if_pos a2, if_pos a2]
  rw [if_neg a2] at h
  rw [if_neg a2, if_neg a2]
  by_cases a3 : most < out.length + num l (up p) 16
  · rw [if_pos a3, if_pos a3]
  rw [if_neg a3] at h
  rw [if_neg a3, if_neg a3]
  by_cases a4 : m < up p + 32 + 8 * num l (up p) 16
  · rw [if_pos a4] at h; simp at h
  rw [if_neg a4, if_neg (by omega : ¬ l.length < up p + 32 + 8 * num l (up p) 16)]
  congr 1
  congr 1
  apply List.map_congr_left
  intro i hi
  rw [List.mem_range] at hi
  have h8 : up p % 8 = 0 := by unfold up; omega
  exact (byteAt_take l m _ (by omega)).symm

theorem syms_ext {l : List Bool} {lit dist : List Nat} {most m : Nat} (hm : m ≤ l.length) : ∀ (k k' : Nat) (out : List Nat) (p : Nat), p ≤ m → m - p < k → l.length - p < k' → (syms (l.take m) lit dist most k out p).2.2 = 0 → syms l lit dist most k' out p = syms (l.take m) lit dist most k out p := by
  have hlen : (l.take m).length = m := by rw [List.length_take]; omega
  intro k
  induction k with
  | zero => intro k' out p _ h; omega
  | succ k ih =>
    intro k' out p hp hk hk' h
    obtain ⟨k2, rfl⟩ : ∃ k2, k' = k2 + 1 := ⟨k' - 1, by omega⟩
    simp only [syms] at h ⊢
    by_cases a1 : (rd lit (l.take m) p).2.2 ≠ 0
    · rw [if_pos a1] at h; exact absurd h a1
    have hrd := rd_ext hm hp (by simpa using a1)
    rw [hrd]
    generalize hr : rd lit (l.take m) p = r at h a1 ⊢
    obtain ⟨y, q, c⟩ := r
    have hl := Hd.rd_lt (by rw [hlen]; exact hp) hr
    rw [hlen] at hl
    have hc : c = 0 := by simpa using a1
    have hl := hl.1 hc
    rw [if_neg a1] at h
    rw [if_neg a1, if_neg a1]
    simp only at h ⊢
    by_cases a2 : y = 256
    · rw [if_pos a2, if_pos a2]
    rw [if_neg a2] at h
    rw [if_neg a2, if_neg a2]
    by_cases a3 : 256 < y
    · rw [if_pos a3] at h
      rw [if_pos a3, if_pos a3]
      by_cases a4 : (copy (l.take m) dist most y q out).2.2 ≠ 0
      · rw [if_pos a4] at h; exact absurd h a4
      have hc := copy_ext hm (by simpa using a4)
      have hf := copy_facts (by simpa using a4 : (copy (l.take m) dist most y q out).2.2 = 0)
      rw [hlen] at hf
      rw [hc]
      rw [if_neg a4] at h
      rw [if_neg a4, if_neg a4]
      exact ih k2 _ _ hf.2 (by omega) (by omega) h
    rw [if_neg a3] at h
    rw [if_neg a3, if_neg a3]
    by_cases a5 : most ≤ out.length
    · rw [if_pos a5, if_pos a5]
    rw [if_neg a5] at h
    rw [if_neg a5, if_neg a5]
    exact ih k2 _ _ hl.2.2 (by omega) (by omega) h

theorem dynamic_ext {l : List Bool} {most p m : Nat} {out : List Nat} (hm : m ≤ l.length) (h : (dynamic (l.take m) most p out).2.2 = 0) : dynamic l most p out = dynamic (l.take m) most p out := by
  have hlen : (l.take m).length = m := by rw [List.length_take]; omega
  unfold dynamic at h ⊢
  by_cases a1 : (head (l.take m) p).2.2.2 ≠ 0
  · rw [if_pos a1] at h; exact absurd h a1
  have hf := head_facts (by simpa using a1 : (head (l.take m) p).2.2.2 = 0)
  rw [head_ext hm (by simpa using a1)]
  rw [hlen] at h hf ⊢
  generalize head (l.take m) p = r at h a1 hf ⊢
  rw [if_neg a1] at h
  rw [if_neg a1, if_neg a1]
  by_cases a2 : r.1[256]?.getD 0 = 0
  · rw [if_pos a2, if_pos a2]
  rw [if_neg a2] at h
  rw [if_neg a2, if_neg a2]
  by_cases a3 : newE (Hd.zz r.1) ≠ 0
  · rw [if_pos a3, if_pos a3]
  rw [if_neg a3] at h
  rw [if_neg a3, if_neg a3]
  by_cases a4 : newE (Hd.zz r.2.1) ≠ 0 ∧ ¬ (∀ x ∈ r.2.1, x = 0)
  · rw [if_pos a4, if_pos a4]
  rw [if_neg a4] at h
  rw [if_neg a4, if_neg a4]
  exact syms_ext hm (m + 1) (l.length + 1) out _ hf.2 (by omega) (by omega) h

theorem block_ext {l : List Bool} {most p m : Nat} {out : List Nat} (hm : m ≤ l.length) (h : (block (l.take m) most p out).2.2 = 0) : block l most p out = block (l.take m) most p out := by
  have hlen : (l.take m).length = m := by rw [List.length_take]; omega
  unfold block at h ⊢
  rw [hlen] at h ⊢
  by_cases a1 : m < p + 3
  · rw [if_pos a1] at h; simp at h
  rw [if_neg a1] at h
  rw [if_neg a1, if_neg (by omega : ¬ l.length < p + 3)]
  rw [num_take l m (p + 1) 2 (by omega)] at h ⊢
  by_cases k0 : num l (p + 1) 2 = 0
  · rw [if_pos k0] at h
    rw [if_pos k0, if_pos k0]
    exact stored_ext hm h
  rw [if_neg k0] at h
  rw [if_neg k0, if_neg k0]
  by_cases k1 : num l (p + 1) 2 = 1
  · rw [if_pos k1] at h
    rw [if_pos k1, if_pos k1]
    exact syms_ext hm (m + 1) (l.length + 1) out _ (by omega) (by omega) (by omega) h
  rw [if_neg k1] at h
  rw [if_neg k1, if_neg k1]
  by_cases k2 : num l (p + 1) 2 = 2
  · rw [if_pos k2] at h
    rw [if_pos k2, if_pos k2]
    exact dynamic_ext hm h
  · rw [if_neg k2, if_neg k2]

theorem blocks_ext {l : List Bool} {most m : Nat} (hm : m ≤ l.length) : ∀ (k k' : Nat) (out : List Nat) (p : Nat), p ≤ m → m - p < k → l.length - p < k' → (blocks (l.take m) most k out p).2.2 = 0 → blocks l most k' out p = blocks (l.take m) most k out p := by
  have hlen : (l.take m).length = m := by rw [List.length_take]; omega
  intro k
  induction k with
  | zero => intro k' out p _ h; omega
  | succ k ih =>
    intro k' out p hp hk hk' h
    obtain ⟨k2, rfl⟩ : ∃ k2, k' = k2 + 1 := ⟨k' - 1, by omega⟩
    simp only [blocks] at h ⊢
    by_cases a1 : (block (l.take m) most p out).2.2 ≠ 0
    · rw [if_pos a1] at h; exact absurd h a1
    have hf := block_facts (by simpa using a1 : (block (l.take m) most p out).2.2 = 0)
    rw [hlen] at hf
    rw [block_ext hm (by simpa using a1)]
    rw [if_neg a1] at h
    rw [if_neg a1, if_neg a1]
    rw [num_take l m p 1 (by omega)] at h ⊢
    by_cases a2 : num l p 1 = 1
    · rw [if_pos a2, if_pos a2]
    rw [if_neg a2] at h
    rw [if_neg a2, if_neg a2]
    exact ih k2 _ _ hf.2 (by omega) (by omega) h

theorem decode_ext {l : List Bool} {most : Int} {m : Nat} (hm : m ≤ l.length) (h : (decode (l.take m) most).2.2 = 0) : decode l most = decode (l.take m) most := by
  have hlen : (l.take m).length = m := by rw [List.length_take]; omega
  unfold decode at h ⊢
  rw [hlen] at h ⊢
  by_cases a1 : most < 0 ∨ 65536 < most
  · rw [if_pos a1, if_pos a1]
  rw [if_neg a1] at h
  rw [if_neg a1, if_neg a1]
  by_cases a2 : (blocks (l.take m) most.toNat (m + 1) [] 0).2.2 ≠ 0
  · rw [if_pos a2] at h; exact absurd h a2
  rw [blocks_ext hm (m + 1) (l.length + 1) [] 0 (Nat.zero_le _) (by omega) (by omega) (by simpa using a2)]
end If
end Go.Proofs.YtgbojpakddjhlaaGreatDoor

/- What stands behind a stream, in bytes. -/
namespace Go.Proofs.YtgbojpakddjhlaaGreatDoor
set_option maxRecDepth 100000
namespace If

theorem bb_get (bs : List Nat) (i : Nat) (h : i < 8 * bs.length) : (bb bs)[i]? = some ((bs[i / 8]?.getD 0).testBit (i % 8)) := by
  unfold bb Bs.bitsFrom
  rw [List.getElem?_map, List.getElem?_range h]
  rfl
theorem bb_pre (x y : List Nat) : (bb (x ++ y)).take (8 * x.length) = bb x := by
  apply List.ext_getElem?
  intro i
  by_cases h : i < 8 * x.length
  · rw [List.getElem?_take_of_lt h, bb_get _ _ (by rw [List.length_append]; omega), bb_get _ _ h, List.getElem?_append_left (by omega)]
  · rw [List.getElem?_eq_none (by rw [List.length_take]; omega), List.getElem?_eq_none (by rw [bb_length]; omega)]

theorem decode_n {l : List Bool} {most : Int} {out : List Nat} {n : Nat} (h : decode l most = (out, n, 0)) : 1 ≤ n ∧ 8 * n ≤ l.length + 7 := by
  unfold decode at h
  by_cases h1 : most < 0 ∨ 65536 < most
  · rw [if_pos h1] at h; simp at h
  rw [if_neg h1] at h
  by_cases h2 : (blocks l most.toNat (l.length + 1) [] 0).2.2 ≠ 0
  · rw [if_pos h2] at h
    exact absurd (Prod.mk.inj (Prod.mk.inj h).2).2 h2
  · rw [if_neg h2] at h
    have hf := blocks_facts (l.length + 1) [] 0 (Nat.zero_le _) (by omega) (by simpa using h2 : (blocks l most.toNat (l.length + 1) [] 0).2.2 = 0)
    have hn := (Prod.mk.inj (Prod.mk.inj h).2).1
    omega

theorem used {bs : List Nat} {most : Int} {out : List Nat} {n : Nat} (h : decode (bb bs) most = (out, n, 0)) :
    1 ≤ n ∧ n ≤ bs.length ∧ (∀ ms, decode (bb (bs.take n ++ ms)) most = (out, n, 0)) ∧ decode (bb (bs.take (n - 1))) most = ([], 0, 4) := by
  obtain ⟨h1, h2⟩ := decode_n h
  rw [bb_length] at h2
  have hn : n ≤ bs.length := by omega
  have ht : ∀ k, k ≤ bs.length → (bb bs).take (8 * k) = bb (bs.take k) := fun k hk => by
    have := bb_pre (bs.take k) (bs.drop k)
    rw [List.take_append_drop, List.length_take, Nat.min_eq_left hk] at this
    exact this
  have c1 := (decode_cut (l := bb bs) (most := most) (m := 8 * n) (by rw [bb_length]; omega) (by rw [h])).1 (by rw [h]; exact Nat.le_refl _)
  have c2 := (decode_cut (l := bb bs) (most := most) (m := 8 * (n - 1)) (by rw [bb_length]; omega) (by rw [h])).2 (by rw [h]; simp only; omega)
  rw [ht n hn, h] at c1
  rw [ht (n - 1) (by omega)] at c2
  refine ⟨h1, hn, fun ms => ?_, c2⟩
  have e := bb_pre (bs.take n) ms
  have d := decode_ext (l := bb (bs.take n ++ ms)) (most := most) (m := 8 * (bs.take n).length) (by rw [bb_length, List.length_append]; omega) (by rw [e, c1])
  rw [d, e, c1]
end If
end Go.Proofs.YtgbojpakddjhlaaGreatDoor

/- Appends of bytes that the statements make themselves. -/
namespace Go.Proofs.YtgbojpakddjhlaaGreatDoor
set_option maxRecDepth 100000
open Go.RowKit

theorem bytes_first (w : World) (a : Option Addr) (len cap : Nat) (bs : List Nat) (ty : TypeId) (hs : Sl w (.slice a len cap) bs) (hl : len ≤ 1000000) :
    ∃ g capn w', (Builtin.append_ #[22, 22] ty #[.slice (some ⟨w.heap.size, 0, none⟩) 0 0, .slice a len cap]).run Tryz.prog (w.alloc (.cells #[] 5)) = .ok (.slice (some ⟨g, 0, none⟩) len capn) w' ∧
      w'.ownsRow w.heap.size 5 1 (.slice (some ⟨g, 0, none⟩) len capn) len (vb bs) ∧ Below w.heap.size w w' := by
  obtain ⟨i0, hi, hz0, hz1, hz2⟩ := info_parts Tryz.infoU8
  have hb := below1 w (.cells #[] 5)
  have hown := World.ownsRow_lit (base := w.heap.size) (e := 5) (size := 1) w #[] 0 (Nat.le_refl _) (by unfold maxLen; omega) rfl
  have hs1 := hs.later hb
  obtain ⟨g, capn, w', hrun, hown', hgrow⟩ := run_append_mine (P := Tryz.prog) (w := w.alloc (.cells #[] 5)) w.heap.size 22 ty 5 i0 (.int .u8 0) 1 1 Tryz.underlying22 hi hz0 hz1 hz2 rfl (by decide)
    w.heap.size 0 0 [] hown a len cap (vb bs) (by rw [vb_length]; have := hs.len.1; omega) hs.len.2.2 (fun h0 => hs1.cells h0) (oneCell_vb _) (by unfold maxLen; omega) (by omega) (by simp)
  have HB : Below w.heap.size w w' := (hb.mono (Nat.le_refl _)).grown hgrow (by simp) (fun k e => by cases e; exact Nat.le_refl _)
  rw [Nat.zero_add, List.nil_append] at hown'
  rw [Nat.zero_add] at hrun
  exact ⟨g, capn, w', hrun, hown', HB⟩

theorem bytes_more (w : World) (base g n cap0 : Nat) (bs : List Nat) (hown : w.ownsRow base 5 1 (.slice (some ⟨g, 0, none⟩) n cap0) n (vb bs)) (a : Option Addr) (m c : Nat) (ms : List Nat) (ty : TypeId) (hs : Sl w (.slice a m c) ms) (h1 : n ≤ 1000000) (h2 : m ≤ 1000000) (hb : base ≤ w.heap.size) :
    ∃ g' cap' w', (Builtin.append_ #[22, 22] ty #[.slice (some ⟨g, 0, none⟩) n cap0, .slice a m c]).run Tryz.prog w = .ok (.slice (some ⟨g', 0, none⟩) (n + m) cap') w' ∧
      w'.ownsRow base 5 1 (.slice (some ⟨g', 0, none⟩) (n + m) cap') (n + m) (vb (bs ++ ms)) ∧ w.grownBy w' (some g) := by
  obtain ⟨i0, hi, hz0, hz1, hz2⟩ := info_parts Tryz.infoU8
  obtain ⟨g', cap', w', hrun, hown', hgrow⟩ := run_append_mine (P := Tryz.prog) (w := w) base 22 ty 5 i0 (.int .u8 0) 1 1 Tryz.underlying22 hi hz0 hz1 hz2 rfl (by decide)
    g cap0 n (vb bs) hown a m c (vb ms) (by rw [vb_length]; have := hs.len.1; omega) hs.len.2.2 (fun h0 => hs.cells h0) (oneCell_vb _) (by unfold maxLen; omega) (by omega) hb
  exact ⟨g', cap', w', hrun, by rw [vb_append]; exact hown', hgrow⟩

theorem sl_take {w : World} {a : Option Addr} {len cap : Nat} {bs : List Nat} (h : Sl w (.slice a len cap) bs) (k : Nat) (hk : k ≤ len) : Sl w (.slice a k cap) (bs.take k) := by
  obtain ⟨a', len', cap', he, h1, h2, h3, h4, h5⟩ := h
  injection he with e1 e2 e3
  subst e1 e2 e3
  refine ⟨_, k, cap, rfl, by rw [List.length_take]; omega, by omega, fun h => ⟨by have := (h3 h).1; omega, (h3 h).2⟩, fun x hx => h4 x (List.mem_of_mem_take hx), fun h0 => ?_⟩
  obtain ⟨b, off, rfl, hlt, hc⟩ := h5 (by omega)
  refine ⟨b, off, rfl, hlt, fun i hi => ?_⟩
  rw [hc i (by omega), List.getElem?_take_of_lt hi]
theorem sl_byte {w : World} {s : Value} {bs : List Nat} (h : Sl w s bs) : ∀ x ∈ bs, x < 256 := by obtain ⟨_, _, _, _, _, _, _, h, _⟩ := h; exact h
end Go.Proofs.YtgbojpakddjhlaaGreatDoor

/- Walks of InflateUsed's ways. -/
namespace Go.Proofs.YtgbojpakddjhlaaGreatDoor
set_option maxRecDepth 100000
open Go.RowKit

set_option maxHeartbeats 8000000 in
theorem used_beyond (a : Option Addr) (len cap : Nat) (most : Int) (a2 : Option Addr) (len2 cap2 : Nat) (w : World) (hg : GG w) (h : 3000 < len ∨ 3000 < len2) :
    Calls Tryz.prog 5 #[.slice a len cap, .int .i64 most, .slice a2 len2 cap2] w fun e w' => e = .returned (.bool true) ∧ Below w.heap.size w w' := by
  have HL := Lib.hid (tail_lives (Below.refl w.heap.size w) hg)
  clear hg
  by_cases h1 : 3000 < len
  · have d1 : decide ((3000 : Int) < (len : Int)) = true := by simp; omega
    have d1' : decide (3000 < len) = true := by simp; omega
    clear h
    go_enter Tryz.func5, Tryz.ntmps5
    go_wp2_with fail
    refine HL.out.mono ?_
    rintro e w' ⟨rfl, hb⟩
    have HB := Lib.hid hb
    clear hb HL
    go_wp2
    go_ret
    exact ⟨rfl, HB.out⟩
  · have d1 : decide ((3000 : Int) < (len : Int)) = false := by simp; omega
    have d1' : decide (3000 < len) = false := by simp; omega
    have d2 : decide ((3000 : Int) < (len2 : Int)) = true := by simp; omega
    have d2' : decide (3000 < len2) = true := by simp; omega
    clear h
    go_enter Tryz.func5, Tryz.ntmps5
    go_wp2_with fail
    refine HL.out.mono ?_
    rintro e w' ⟨rfl, hb⟩
    have HB := Lib.hid hb
    clear hb HL
    go_wp2
    go_ret
    exact ⟨rfl, HB.out⟩

set_option maxHeartbeats 8000000 in
theorem used_bad (a : Option Addr) (len cap : Nat) (bs : List Nat) (most : Int) (a2 : Option Addr) (len2 cap2 : Nat) (w : World) (hs : Sl w (.slice a len cap) bs) (hg : GG w) (h1 : len ≤ 3000) (h2 : len2 ≤ 3000) (c : Int) (hc : c ≠ 0) (hd : If.decode (If.bb bs) most = ([], 0, c)) :
    Calls Tryz.prog 5 #[.slice a len cap, .int .i64 most, .slice a2 len2 cap2] w fun e w' => e = .returned (.bool true) ∧ Below w.heap.size w w' := by
  have hlen := hs.len.1
  have HD := Lib.hid (dec_is _ bs most w hs (by omega) hg _ _ _ hd)
  have HG := Lib.hid hg
  have d1 : decide ((3000 : Int) < (len : Int)) = false := by simp; omega
  have d1' : decide (3000 < len) = false := by simp; omega
  have d2 : decide ((3000 : Int) < (len2 : Int)) = false := by simp; omega
  have d2' : decide (3000 < len2) = false := by simp; omega
  have d4 : (c != 0) = true := by rw [bne_iff_ne]; exact hc
  clear hg hs hlen hd hc
  go_enter Tryz.func5, Tryz.ntmps5
  go_wp2_with fail
  refine HD.out.mono ?_
  clear HD
  rintro e w1 ⟨a1, c1, rfl, hs1, hb1, _, _⟩
  have HL := Lib.hid (tail_lives hb1 HG.out)
  clear hs1 hb1
  go_wp2_with fail
  refine HL.out.mono ?_
  rintro e w' ⟨rfl, hb⟩
  have HB := Lib.hid hb
  clear hb HL
  go_wp2
  go_ret
  exact ⟨rfl, HB.out⟩

set_option maxHeartbeats 8000000 in
theorem used_good (a : Option Addr) (len cap : Nat) (bs : List Nat) (most : Int) (a2 : Option Addr) (len2 cap2 : Nat) (ms : List Nat) (w : World) (hs : Sl w (.slice a len cap) bs) (hcap : len ≤ cap) (hs2 : Sl w (.slice a2 len2 cap2) ms) (hg : GG w) (h1 : len ≤ 3000) (h2 : len2 ≤ 3000) (out : List Nat) (n : Nat) (hd : If.decode (If.bb bs) most = (out, n, 0)) :
    Calls Tryz.prog 5 #[.slice a len cap, .int .i64 most, .slice a2 len2 cap2] w fun e w' => e = .returned (.bool true) ∧ Below w.heap.size w w' := by
  have hlen := hs.len.1
  have hlen2 := hs2.len.1
  obtain ⟨hn1, hn2, hx, hy⟩ := If.used hd
  have HD1 := Lib.hid (dec_is _ bs most w hs (by omega) hg _ _ _ hd)
  have HD2 := Lib.hid (fun W v (hv : Sl W v (bs.take n ++ ms)) (hb : Below w.heap.size w W) => dec_is v _ most W hv (by rw [List.length_append, List.length_take]; omega) (hg.later hb) _ _ _ (hx ms))
  have HD3 := Lib.hid (fun W v (hv : Sl W v (bs.take (n - 1))) (hb : Below w.heap.size w W) => dec_is v _ most W hv (by rw [List.length_take]; omega) (hg.later hb) _ _ _ hy)
  have HG := Lib.hid hg
  have HSA := Lib.hid hs
  have HSB := Lib.hid hs2
  have d1 : decide ((3000 : Int) < (len : Int)) = false := by simp; omega
  have d1' : decide (3000 < len) = false := by simp; omega
  have d2 : decide ((3000 : Int) < (len2 : Int)) = false := by simp; omega
  have d2' : decide (3000 < len2) = false := by simp; omega
  have hnl : n ≤ len := by omega
  have d3 : decide ((n : Int) < 1) = false := by simp; omega
  have d3' : decide (n < 1) = false := by simp; omega
  have d4 : decide ((len : Int) < (n : Int)) = false := by simp; omega
  have d4' : decide (len < n) = false := by simp; omega
  obtain ⟨k, hk⟩ : ∃ k, k = n - 1 := ⟨_, rfl⟩
  have hsub : IntKind.i64.wrap ((n : Int) - 1) = (k : Int) := by rw [IntWalk.i64_in _ (by omega)]; omega
  rw [← hk] at HD3
  have hkn : k ≤ n := by omega
  have hkl : k ≤ len := by omega
  have i1 : (n : Int) ≤ (cap : Int) := by omega
  have i2 : (k : Int) ≤ (cap : Int) := by omega
  have i3 : n ≤ cap := by omega
  have i4 : k ≤ cap := by omega
  obtain ⟨q, hq⟩ : ∃ q, q = out.length := ⟨_, rfl⟩
  rw [← hq] at HD1 HD2
  obtain ⟨S, hS⟩ : ∃ S, S = strB out := ⟨_, rfl⟩
  have HS := Lib.hid hS
  clear hg hs hs2 hlen hlen2 hd hx hy hq hS hk hn1 hn2
  go_enter Tryz.func5, Tryz.ntmps5
  go_wp2_with fail
  refine HD1.out.mono ?_
  clear HD1
  rintro e w1 ⟨b1, c1, rfl, hs1, hb1, _, _⟩
  have HS1 := Lib.hid hs1
  have HB1 := Lib.hid hb1
  obtain ⟨g2, p2, w2, hr2, ho2, hb2⟩ := bytes_first w1 a n cap (bs.take n) 22 (sl_take (HSA.out.later hb1) n hnl) (by omega)
  have hb12 := hb1.trans (hb2.mono hb1.size)
  obtain ⟨g3, p3, w3, hr3, ho3, hg3⟩ := bytes_more w2 w1.heap.size g2 n p2 (bs.take n) ho2 a2 len2 cap2 ms 22 (HSB.out.later hb12) (by omega) (by omega) hb2.size
  have hb23 : Below w1.heap.size w1 w3 := hb2.grown hg3 hb2.size (fun q hq => by injection hq with hq; subst hq; exact (World.ownsRow.lt ho2 g2 rfl).1)
  have HR2 := Lib.hid hr2
  have HR3 := Lib.hid hr3
  have HS1b := Lib.hid (HS1.out.later hb23)
  have HB3 := Lib.hid (hb1.trans (hb23.mono hb1.size))
  have hs3 : Sl w3 (.slice (some ⟨g3, 0, none⟩) (n + len2) p3) (bs.take n ++ ms) := Sl.owned ho3 (fun x hx => by
    rw [List.mem_append] at hx
    rcases hx with hx | hx
    · exact sl_byte HSA.out x (List.mem_of_mem_take hx)
    · exact sl_byte HSB.out x hx) (by omega)
  have HDX := Lib.hid (HD2.out w3 _ hs3 HB3.out)
  clear hs1 hb1 hr2 ho2 hb2 hb12 hr3 ho3 hg3 hb23 hs3 HD2 HS1 HB1
  go_wp2_with (at_builtin; (first | (refine wpList_append_is rfl (.tmp 53) (.tmp 56) 22 rfl _ _ _ _ rfl rfl HR2.out ?_) | (refine wpList_append_is rfl (.tmp 57) (.tmp 58) 22 rfl _ _ _ _ rfl rfl HR3.out ?_)))
  refine HDX.out.mono ?_
  clear HDX HR2 HR3
  rintro e w4 ⟨b4, c4, rfl, hs4, hb4, _, _⟩
  have HS1c := Lib.hid (HS1b.out.later hb4)
  have HS4 := Lib.hid hs4
  have hb04 := HB3.out.trans (hb4.mono HB3.out.size)
  obtain ⟨g5, p5, w5, hr5, ho5, hb5⟩ := bytes_first w4 a k cap (bs.take k) 22 (sl_take (HSA.out.later hb04) k hkl) (by omega)
  have HR5 := Lib.hid hr5
  have HB5 := Lib.hid (hb04.trans (hb5.mono hb04.size))
  have HS1d := Lib.hid (HS1c.out.later hb5)
  have HS4b := Lib.hid (HS4.out.later hb5)
  have hs5 : Sl w5 (.slice (some ⟨g5, 0, none⟩) k p5) (bs.take k) := Sl.owned ho5 (fun x hx => sl_byte HSA.out x (List.mem_of_mem_take hx)) (by omega)
  have HDX := Lib.hid (HD3.out w5 _ hs5 HB5.out)
  clear hs4 hb4 hb04 hr5 ho5 hb5 hs5 HS1b HS1c HS4 HB3 HD3
  go_wp2_with (at_builtin; (refine wpList_append_is rfl (.tmp 66) (.tmp 70) 22 rfl _ _ _ _ rfl rfl HR5.out ?_))
  refine HDX.out.mono ?_
  clear HDX HR5
  rintro e w6 ⟨b6, c6, rfl, hs6, hb6, _, _⟩
  have r1 := string_of w6 b1 q c1 _ S (HS1d.out.later hb6) HS.out
  have r2 := string_of w6 b4 q c4 _ S (HS4b.out.later hb6) HS.out
  have HL := Lib.hid (tail_lives (HB5.out.trans (hb6.mono HB5.out.size)) HG.out)
  clear hs6 hb6 HS1d HS4b HB5
  go_wp2_with fail
  refine HL.out.mono ?_
  rintro e w' ⟨rfl, hb⟩
  have HB := Lib.hid hb
  clear hb HL r1 r2
  go_wp2
  go_ret
  exact ⟨rfl, HB.out⟩
end Go.Proofs.YtgbojpakddjhlaaGreatDoor

/- A slice of bytes that came in is not longer than its capacity. -/
namespace Go.Proofs.YtgbojpakddjhlaaGreatDoor
set_option maxRecDepth 100000
open Go.ChangeShapes Go.WideShapes Go.ChangeAt Go.RowKit Go.Joins

/-- A slice's length is within its capacity. -/
def Capped (v : Value) : Prop := ∀ a len cap, v = .slice a len cap → len ≤ cap

theorem bytes_cap {H : Type} {enc : TypeId × Value → H} {W : World} {base : Nat} {v : Value} {d : DataW H} {p : List MemPlace} (hv : Value.okWide Tryz.prog W .any base 22 v)
    (h : DataW.Trod enc Tryz.prog W 0 (fun _ => true) true 22 v d p) : Capped v := by
  obtain ⟨a1, len, cap, rfl⟩ := okWide_slice Tryz.underlying22 hv
  obtain ⟨fuel, hf⟩ := h
  intro a2 len2 cap2 e
  injection e with e1 e2 e3
  subst e1 e2 e3
  rcases open_ints Tryz.underlying22 Tryz.underlying5 Tryz.cellsU8 hf with ⟨hcs, _⟩ | ⟨a, len', cap', zs, hcs, _, hl, _⟩
  · simp [Value.cells] at hcs
    omega
  · simp [Value.cells] at hcs
    omega
end Go.Proofs.YtgbojpakddjhlaaGreatDoor
