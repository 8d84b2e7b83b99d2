/- Slices of texts in memory; path.mayBe. -/
import Derived.Test.YtghoajhfndnafaaPname
import Derived.Lib.MinMax

namespace Go.Proofs.Ytghoajhfndnafaa
set_option maxRecDepth 100000
open Go.RowKit

theorem Try.infoStr : (Try.prog.info? 9).map (fun i => (i.zero, i.size, i.bytes)) = some (some (.string ByteArray.empty), 1, 16) := by kernel_rfl

/-- Texts, as cells. -/
def vs (l : List Tx) : List Value := l.map fun s => .string (bx s)
theorem vs_length (l : List Tx) : (vs l).length = l.length := by simp [vs]
theorem vs_append (a b : List Tx) : vs (a ++ b) = vs a ++ vs b := by simp [vs]
theorem vs_one (l : List Tx) : ∀ v ∈ vs l, v.oneCell' = true := by
  intro v hv
  simp only [vs, List.mem_map] at hv
  obtain ⟨x, _, rfl⟩ := hv
  rfl
theorem vs_get (l : List Tx) (i : Nat) (h : i < l.length) : (vs l)[i]? = some (.string (bx (l[i]'h))) := by simp [vs, List.getElem?_eq_getElem h]

/-- The slice v reads the texts l. -/
def Ss (w : World) (v : Value) (l : List Tx) : Prop :=
  ∃ a cap, v = .slice a l.length cap ∧ l.length ≤ cap ∧ (l ≠ [] → ∃ b off, a = some ⟨b, off, none⟩ ∧ b < w.heap.size ∧ ∀ i (h : i < l.length), w.cell? ⟨b, off + i, none⟩ = some (.string (bx (l[i]'h))))
theorem Ss.later {w w' : World} {v : Value} {l : List Tx} (h : Ss w v l) (hb : Below w.heap.size w w') : Ss w' v l := by
  obtain ⟨a, cap, e, h1, h2⟩ := h
  refine ⟨a, cap, e, h1, fun hl => ?_⟩
  obtain ⟨b, off, ea, hlt, hc⟩ := h2 hl
  exact ⟨b, off, ea, Nat.lt_of_lt_of_le hlt hb.size, fun i hi => (hb.cell (p := ⟨b, off + i, none⟩) hlt).trans (hc i hi)⟩
theorem Ss.nil (w : World) (a : Option Addr) (c : Nat) : Ss w (.slice a 0 c) [] := ⟨a, c, rfl, Nat.zero_le _, fun h => absurd rfl h⟩
theorem Ss.take {w : World} {a : Option Addr} {cap : Nat} {l : List Tx} (h : Ss w (.slice a l.length cap) l) (k : Nat) (hk : k ≤ l.length) : Ss w (.slice a k cap) (l.take k) := by
  obtain ⟨a', cap', e, h1, h2⟩ := h
  cases e
  have hl : (l.take k).length = k := by simp; omega
  refine ⟨a, cap, by rw [hl], by omega, fun hne => ?_⟩
  obtain ⟨b, off, ea, hlt, hc⟩ := h2 (by rintro rfl; simp at hne)
  refine ⟨b, off, ea, hlt, fun i hi => ?_⟩
  rw [hc i (by omega)]
  simp
/-- A row of texts of the call's own. -/
def Ot (w : World) (base : Nat) (v : Value) (l : List Tx) : Prop := w.ownsRow base 9 1 v l.length (vs l)
theorem Ot.nil (w : World) (base : Nat) : Ot w base (.slice none 0 0) [] := ⟨rfl, Or.inl ⟨rfl, rfl⟩⟩
theorem Ot.ss {w : World} {base : Nat} {v : Value} {l : List Tx} (h : Ot w base v l) : Ss w v l := by
  rcases h.2 with ⟨rfl, h0⟩ | ⟨g, cap, cur, rfl, hb, hg, hc1, hc2, hc3, hc4⟩
  · obtain rfl : l = [] := List.eq_nil_of_length_eq_zero h0
    exact Ss.nil w none 0
  · refine ⟨_, cap, rfl, hc1, fun _ => ⟨g, 0, rfl, (Array.getElem?_eq_some_iff.1 hg).1, fun i hi => ?_⟩⟩
    have hown : w.ownsRow base 9 1 (.slice (some ⟨g, 0, none⟩) l.length cap) l.length (vs l) := ⟨h.1, Or.inr ⟨g, cap, cur, rfl, hb, hg, hc1, hc2, hc3, hc4⟩⟩
    rw [Nat.zero_add, hown.cellAt i (by omega), vs_get l i hi]
theorem Ot.le {w : World} {base base' : Nat} {v : Value} {l : List Tx} (h : Ot w base v l) (hb : base' ≤ base) : Ot w base' v l := by
  obtain ⟨h1, h2⟩ := h
  refine ⟨h1, ?_⟩
  rcases h2 with h2 | ⟨g, c, cur, e, hg, r⟩
  · exact Or.inl h2
  · exact Or.inr ⟨g, c, cur, e, Nat.le_trans hb hg, r⟩
theorem Ot.later {w w' : World} {base : Nat} {v : Value} {l : List Tx} (h : Ot w base v l) (hb : Below w.heap.size w w') : Ot w' base v l := by
  obtain ⟨h1, h2⟩ := h
  refine ⟨h1, ?_⟩
  rcases h2 with h2 | ⟨g, c, cur, e, hg, hh, r⟩
  · exact Or.inl h2
  · exact Or.inr ⟨g, c, cur, e, hg, (hb.block g (Array.getElem?_eq_some_iff.1 hh).1).trans hh, r⟩
theorem Ot.drop {w : World} {base : Nat} {a : Option Addr} {cap : Nat} {l : List Tx} (h : Ot w base (.slice a l.length cap) l) (k : Nat) (hk : k ≤ l.length) : Ot w base (.slice a k cap) (l.take k) := by
  have hl : (l.take k).length = k := by simp; omega
  obtain ⟨h1, h2⟩ := h
  unfold Ot
  rw [hl]
  refine ⟨by rw [vs_length, hl]; omega, ?_⟩
  rcases h2 with ⟨h2, h3⟩ | ⟨g, c, cur, e, hg, hh, r1, r2, r3, r4⟩
  · injection h2 with q1 q2 q3
    subst q1 q3
    obtain rfl : k = 0 := by omega
    exact Or.inl ⟨rfl, rfl⟩
  · injection e with q1 q2 q3
    subst q1 q3
    refine Or.inr ⟨g, cap, cur, rfl, hg, hh, by omega, r2, r3, ?_⟩
    have : cur.toList.take (k * 1) = (cur.toList.take (l.length * 1)).take k := by rw [List.take_take]; congr 1; omega
    rw [this, r4]
    simp [vs, List.map_take]
/-- One more. -/
theorem Ot.append {w : World} {base : Nat} {v : Value} {l : List Tx} (h : Ot w base v l) (s : Tx) (hl : l.length ≤ 10000000) (g off cap : Nat) (hg : w.cell? ⟨g, off, none⟩ = some (.string (bx s))) (hb : base ≤ w.heap.size) :
    ∃ v' w', (Builtin.append_ #[22, 22] 22 #[v, .slice (some ⟨g, off, none⟩) 1 cap]).run Try.prog w = .ok v' w' ∧ Ot w' base v' (l ++ [s]) ∧ w.grownBy w' v.ownBlock ∧ (v'.ownBlock = v.ownBlock ∨ v'.ownBlock = some w.heap.size) := by
  obtain ⟨i0, hi, hz0, hz1, hz2⟩ := info_parts Try.infoStr
  obtain ⟨v', w', h1, h2, h3, _, h5⟩ := run_append_own_at (P := Try.prog) (w := w) base 22 22 9 i0 _ 1 16 Try.underlying22 hi hz0 hz1 hz2 rfl (by decide) v l.length (vs l) h ⟨g, off, none⟩ 1 cap [.string (bx s)] rfl
    (fun j u hj => by
      obtain rfl : j = 0 := by have := (List.getElem?_eq_some_iff.1 hj).1; simpa using this
      show w.cell? ⟨g, off + 0, none⟩ = _
      rw [Nat.add_zero, hg]; exact hj) (by simp [Value.oneCell']) (by unfold maxLen; omega) (by omega) hb
  refine ⟨v', w', h1, ?_, h3, h5⟩
  unfold Ot
  rw [List.length_append, List.length_singleton, vs_append]
  exact h2

namespace Pn
def lens (l : List Tx) : Nat := (l.map List.length).sum
theorem lens_take_succ (l : List Tx) (k : Nat) (h : k < l.length) : lens (l.take (k + 1)) = lens (l.take k) + (l[k]'h).length := by
  rw [List.take_succ_eq_append_getElem h]
  unfold lens
  rw [List.map_append, List.sum_append]
  simp
theorem join_size (l : List Tx) : (join l).length = (l.length - 1) + lens l := by
  induction l with
  | nil => rfl
  | cons a t ih =>
    cases t with
    | nil => rw [join_one]; simp [lens]
    | cons b r =>
      rw [join_cons2, List.length_append, List.length_cons, ih]
      simp [lens]
      omega
theorem lens_le (l : List Tx) (h : l.all name = true) : lens l ≤ 32 * l.length := by
  induction l with
  | nil => simp [lens]
  | cons a t ih =>
    simp only [List.all_cons, Bool.and_eq_true] at h
    have := ih h.2
    have := (name_len h.1).2
    simp only [lens, List.map_cons, List.sum_cons, List.length_cons] at *
    omega
end Pn
theorem all_take_succ' (l : List Tx) (k : Nat) (h : k < l.length) (p : Tx → Bool) : (l.take (k + 1)).all p = ((l.take k).all p && p (l[k]'h)) := by
  rw [List.take_succ_eq_append_getElem h, List.all_append]
  simp
theorem all_bad' (l : List Tx) (k : Nat) (h : k < l.length) (p : Tx → Bool) (hb : p (l[k]'h) = false) : l.all p = false := by
  rw [List.all_eq_false]
  exact ⟨l[k]'h, List.getElem_mem h, by rw [hb]; simp⟩

set_option maxRecDepth 100000 in
set_option maxHeartbeats 4000000 in
theorem may_any (v : Value) (l : List Tx) (w : World) (h : Ss w v l) (hl : l.length ≤ 1000000) :
    Calls Try.prog 32 #[v] w fun e w' => e = .returned (.bool (Pn.path l)) ∧ Below w.heap.size w w' := by
  have HS := Lib.hid h
  obtain ⟨a, cap, rfl, hcap, hc⟩ := h
  obtain ⟨n, hn⟩ : ∃ n, n = l.length := ⟨_, rfl⟩
  have HN := Lib.hid hn
  rw [← hn] at hcap hl ⊢
  by_cases h8 : 8 < n
  · have HP : Hid (Pn.path l = false) := by show _ = _; simp only [Pn.path]; rw [← hn]; simp; omega
    clear hc hn HS
    have q1 : ((8 : Int) < (n : Int)) = True := by simp; omega
    go_enter Try.func32, Try.ntmps32
    go_wp2_with fail
    go_ret
    exact ⟨by rw [HP.out]; rfl, Below.refl _ _⟩
  · have q1 : ((8 : Int) < (n : Int)) = False := by simp; omega
    by_cases h0 : n = 0
    · subst h0
      obtain rfl : l = [] := List.eq_nil_of_length_eq_zero hn.symm
      clear hc hn HS q1 h8 HN
      go_enter Try.func32, Try.ntmps32
      go_wp2_with fail
      go_loopw [3, 16] (fun s3 s16 wr => s3 = .int .i64 0 ∧ s16 = .int .i64 0 ∧ wr = w) (fun _ _ _ => 0)
      case atStart => exact ⟨rfl, rfl, rfl⟩
      case round =>
        obtain ⟨rfl, rfl, rfl⟩ := hrel
        go_wp2_with fail
        go_ret
        exact ⟨rfl, Below.refl _ _⟩
    · obtain ⟨b, off, rfl, hb, hcell⟩ := hc (by rintro rfl; simp at hn; omega)
      have HC := Lib.hid hcell
      have HB := Lib.hid hb
      have hw1 : IntKind.i64.wrap ((n : Int) - 1) = ((n - 1 : Nat) : Int) := by rw [IntWalk.i64_in _ (by omega)]; omega
      have hmx : max ((n - 1 : Nat) : Int) 0 = ((n - 1 : Nat) : Int) := by omega
      have hn8 : n ≤ 8 := by omega
      clear hc hcell hn HS hb hl h8
      go_enter Try.func32, Try.ntmps32
      go_wp2_with fail
      go_loopw [3, 16] (fun s3 s16 wr => ∃ k z : Nat, k ≤ n ∧ s3 = .int .i64 (z : Int) ∧ s16 = .int .i64 (k : Int) ∧ Hid (Unit → z = (n - 1) + Pn.lens (l.take k) ∧ (l.take k).all Pn.name = true) ∧ Hid (Below w.heap.size w wr)) (fun _ s16 _ => n - (intOf s16).toNat)
      case atStart => exact ⟨0, n - 1, Nat.zero_le _, by first | rfl | go_num, rfl, Lib.hid (fun _ => ⟨by simp [Pn.lens], rfl⟩), Lib.hid (Below.refl _ _)⟩
      case round =>
        obtain ⟨k, z, hk, rfl, rfl, HZ, HBW⟩ := hrel
        by_cases hlt : k < n
        · have hkl : k < l.length := by rw [← HN.out]; exact hlt
          have hcx : wr.cell? ⟨b, off + k, none⟩ = some (.string (bx (l[k]'hkl))) := (HBW.out.cell (p := ⟨b, off + k, none⟩) HB.out).trans (HC.out k hkl)
          obtain ⟨x, hx⟩ : ∃ x, x = l[k]'hkl := ⟨_, rfl⟩
          rw [← hx] at hcx
          have HX := Lib.hid hx
          have hzz : z ≤ 1000 := by
            have h1 := (HZ.out ()).1
            have h2 := Pn.lens_le _ (HZ.out ()).2
            have h3 : (l.take k).length ≤ 8 := by simp; omega
            omega
          have HNM := fun w1 => Lib.hid (name_any x w1)
          have hsz := bx_size x
          obtain ⟨X, hX⟩ : ∃ X, X = bx x := ⟨_, rfl⟩
          rw [← hX] at hcx HNM hsz
          clear hx hX
          cases hnm : Pn.name x with
          | false =>
            have HP : Hid (Pn.path l = false) := by
              show _ = _
              simp only [Pn.path]
              rw [all_bad' l k hkl _ (by rw [← HX.out]; exact hnm)]
              simp
            rw [hnm] at HNM
            clear hnm HX hkl
            go_wp2_with (go_at_call 15; refine (HNM _).out.mono ?_; rintro e w3 ⟨rfl, hb3⟩; have HB3 := Lib.hid hb3; clear hb3; simp only [ec])
            go_ret
            exact ⟨by rw [HP.out]; rfl, HBW.out.trans (HB3.out.mono HBW.out.size)⟩
          | true =>
            have hxl := (Pn.name_len hnm).2
            have hw2 : IntKind.i64.wrap ((z : Int) + (x.length : Int)) = ((z + x.length : Nat) : Int) := by rw [IntWalk.i64_in _ (by omega)]; omega
            have HT : Hid (Unit → z + x.length = (n - 1) + Pn.lens (l.take (k + 1)) ∧ (l.take (k + 1)).all Pn.name = true) := fun _ => by
              obtain ⟨g1, g2⟩ := HZ.out ()
              rw [Pn.lens_take_succ l k hkl, all_take_succ' l k hkl, g2, ← HX.out, hnm]
              exact ⟨by omega, rfl⟩
            rw [hnm] at HNM
            clear hnm HX hkl
            generalize x.length = xl at hsz hxl hw2 HT
            go_wp2_with (go_at_call 15; refine (HNM _).out.mono ?_; rintro e w3 ⟨rfl, hb3⟩; have HB3 := Lib.hid hb3; clear hb3; simp only [ec])
            go_roundw
            case rel => exact ⟨k + 1, z + xl, by omega, by first | rfl | go_num, by go_num, HT, Lib.hid (HBW.out.trans (HB3.out.mono HBW.out.size))⟩
            case measure => simp [intOf]; omega
        · obtain rfl : k = n := by omega
          have HP : Hid (Pn.path l = decide (z ≤ 120)) := by
            show _ = _
            obtain ⟨g1, g2⟩ := HZ.out ()
            have hn := HN.out
            rw [List.take_of_length_le (by omega)] at g1 g2
            simp only [Pn.path]
            rw [Pn.join_size, g2, ← hn, ← g1]
            simp
            omega
          clear hlt HZ
          go_wp2_with fail
          go_ret
          exact ⟨by rw [HP.out]; simp; omega, HBW.out⟩
end Go.Proofs.Ytghoajhfndnafaa
