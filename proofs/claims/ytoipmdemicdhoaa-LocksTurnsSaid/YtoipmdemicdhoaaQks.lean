/- All locks in memory: a map from keys to locks; Holds. -/
import Derived.Test.YtoipmdemicdhoaaQaw
import Derived.Test.YtoipmdemicdhoaaAppm
import Derived.Maps.Keyed
import Derived.Laws.Cover3
import Derived.Deep.RegionHeld3

namespace Go.Proofs.Ytoipmdemicdhoaa
set_option maxRecDepth 100000
open Go.RowKit Go.Maps Go.WideMaps

theorem str_keyed : Keyed Try.prog 9 := string_keyed Try.underlying9
theorem str_key (S : ByteArray) (hS : S.size ≤ 1000) : ∃ l, keyOf Try.prog 9 (.string S) = some l := by
  refine ⟨.string S.data.toList, ?_⟩
  have : S.size ≤ maxLen := by unfold maxLen; omega
  simp [keyOf, Try.underlying9, mapKey, this]

/-- Locks in block b: their map in block m; ow tells whose a block is; D: all blocks of theirs. -/
structure LksV (w : World) (b m n : Nat) (f : Value → Option Value) (ow : Nat → Option ByteArray) (D : Nat → Prop) (s : Qk.Sts) : Prop where
  has : Has w b (.cells #[.map (some m)] 51 (0, 0))
  map : Ap Try.prog 9 w m n f
  keys : ∀ x, (f (.string x) = none ∧ s x = Qk.nob) ∨ ∃ c, f (.string x) = some (.pointer (some ⟨c, 0, none⟩)) ∧ (s x).hs ≠ [] ∧ Lck w c (fun g => ow g = some x) (s x)
  good : ∀ x, Qk.Good (s x)
  ob : ow b = none
  om : ow m = none
  db : D b
  dm : D m
  dow : ∀ g x, ow g = some x → D g
  lt : ∀ g, D g → g < w.heap.size
def Lks (w : World) (b : Nat) (D : Nat → Prop) (s : Qk.Sts) : Prop := ∃ m n f ow, LksV w b m n f ow D s

theorem LksV.tch {w w' : World} {b m n : Nat} {f : Value → Option Value} {ow : Nat → Option ByteArray} {D S : Nat → Prop} {s : Qk.Sts} (h : LksV w b m n f ow D s) (ht : Tch S w w') (hn : ∀ g, D g → ¬ S g) : LksV w' b m n f ow D s :=
  ⟨h.has.tch ht (hn b h.db), h.map.tch ht (hn m h.dm), fun x => (h.keys x).imp id (fun ⟨c, h1, h2, h3⟩ => ⟨c, h1, h2, h3.tch ht (fun g hg => hn g (h.dow g x hg))⟩), h.good, h.ob, h.om, h.db, h.dm, h.dow, fun g hg => Nat.lt_of_lt_of_le (h.lt g hg) ht.size⟩
theorem Lks.tch {w w' : World} {b : Nat} {D S : Nat → Prop} {s : Qk.Sts} (h : Lks w b D s) (ht : Tch S w w') (hn : ∀ g, D g → ¬ S g) : Lks w' b D s := by
  obtain ⟨m, n, f, ow, h⟩ := h
  exact ⟨m, n, f, ow, h.tch ht hn⟩
theorem Lks.later {w w' : World} {b : Nat} {D : Nat → Prop} {s : Qk.Sts} (h : Lks w b D s) (hb : Below w.heap.size w w') : Lks w' b D s :=
  h.tch (Tch.of_below (S := fun _ => False) hb) (fun _ _ h => h)
theorem Lks.lt {w : World} {b : Nat} {D : Nat → Prop} {s : Qk.Sts} (h : Lks w b D s) : ∀ g, D g → g < w.heap.size := by
  obtain ⟨m, n, f, ow, h⟩ := h
  exact h.lt
theorem Lks.good {w : World} {b : Nat} {D : Nat → Prop} {s : Qk.Sts} (h : Lks w b D s) : ∀ x, Qk.Good (s x) := by
  obtain ⟨m, n, f, ow, h⟩ := h
  exact h.good

set_option maxHeartbeats 1000000 in
/-- The lock of a key, or none. -/
theorem look_any {w : World} {b m n : Nat} {f : Value → Option Value} (hx : Has w b (.cells #[.map (some m)] 51 (0, 0))) (hm : Ap Try.prog 9 w m n f) (S : ByteArray) (hS : S.size ≤ 1000) (r : Option Addr) (hr : f (.string S) = none ∧ r = none ∨ f (.string S) = some (.pointer r)) :
    Calls Try.prog 32 #[.pointer (some ⟨b, 0, none⟩), .string S] w fun e w' => e = .returned (.pointer r) ∧ w' = w := by
  obtain ⟨kl, hk⟩ := str_key S hS
  obtain ⟨c0, -⟩ := hx.one
  have L : (Instr.lookup 49 (.map (some m)) (.string S) false).run Try.prog w = .ok (.pointer r) w := by
    rcases hr with ⟨hf, rfl⟩ | hf
    · exact hm.look_none str_keyed Try.underlying49 (z := .pointer none) rfl false (.string S) hk hf
    · exact hm.look_some str_keyed Try.underlying49 false (.string S) hk hf
  clear hm hr hk hx hS
  go_enter Try.func32, Try.ntmps32
  go_wp2
  go_ret
  exact ⟨rfl, rfl⟩

theorem qs_eql_nil (w : World) (a : Option Addr) (l c : Nat) : (binOp .eql 32 (.slice a l c) (.slice none 0 0)).run Try.prog w = .ok (.bool a.isNone) w := by
  simp only [binOp]
  simp [run_equal_slice_nil w 32 3 a l c Try.underlying32]

set_option maxHeartbeats 1000000 in
/-- slices.Clone of numbers of the call's own. -/
theorem qclone_any (xs : List Nat) (a : Option Addr) (n cap : Nat) (w : World) (h : w.ownsRow 0 3 1 (.slice a n cap) n (qn xs)) (hl : n ≤ 1000) (hn : 0 < n) :
    Calls Try.prog 33 #[.slice a n cap] w fun e w' => ∃ v, e = .returned v ∧ w'.ownsRow w.heap.size 3 1 v n (qn xs) ∧ Below w.heap.size w w' := by
  have hlen : xs.length = n := by have := h.1; rw [qn_length] at this; omega
  obtain ⟨g, cap', e0, hg, -, -⟩ := qo_at h hn
  cases e0
  obtain ⟨i0, hi, hz0, hz1, hz2⟩ := qinfo Try.infoIntQ
  have hb := below1 w (.cells #[] 3)
  have hown := World.ownsRow_lit (base := w.heap.size) (e := 3) (size := 1) w #[] 0 (Nat.le_refl _) (by unfold maxLen; omega) rfl
  obtain ⟨g2, capn, w', hrun, hown', hgrow⟩ := run_append_mine (P := Try.prog) (w := w.alloc (.cells #[] 3)) w.heap.size 32 32 3 i0 (.int .i64 0) 1 8 Try.underlying32 hi hz0 hz1 hz2 rfl (by decide)
    w.heap.size 0 0 [] hown (some ⟨g, 0, none⟩) n cap (qn xs) (by rw [qn_length]; omega) (fun h => by cases h)
    (fun h0 => ⟨_, rfl, fun j u hj => by
      rw [Addr.add_mid, Nat.zero_add, hb.cell (p := ⟨g, j, none⟩) hg]
      have hj2 := (List.getElem?_eq_some_iff.1 hj).1
      rw [h.cellAt j (by rw [qn_length] at hj2; omega)]
      exact hj⟩)
    (qn_one _) (by unfold maxLen; omega) (by omega) (by simp)
  have HB : Hid (Below w.heap.size w w') := (hb.mono (Nat.le_refl _)).grown hgrow (by simp) (fun k e => by cases e; exact Nat.le_refl _)
  rw [Nat.zero_add, List.nil_append] at hown'
  rw [Nat.zero_add] at hrun
  have HO := Lib.hid hown'
  have hnil : ∀ W, (binOp .eql 32 (.slice (some ⟨g, 0, none⟩) n cap) (.slice none 0 0)).run Try.prog W = .ok (.bool false) W := fun W => qs_eql_nil W (some ⟨g, 0, none⟩) n cap
  have HRUN := Lib.hid hrun
  clear h hlen hown hown' hgrow hb hi hrun
  go_enter Try.func33, Try.ntmps33
  go_wp2_with (at_builtin; refine wpList_append_known' rfl _ _ 32 rfl _ _ _ _ rfl rfl HRUN.out ?_)
  go_ret
  exact ⟨_, rfl, HO.out, HB.out⟩

/-- What Holds tells. -/
def HoldsP (w : World) (s : Qk.St) (e : Ending) (w' : World) : Prop := ∃ v, e = .returned (.tuple #[v, .bool s.wr]) ∧ w'.ownsRow w.heap.size 3 1 v s.hs.length (qn s.hs) ∧ Below w.heap.size w w'

set_option maxHeartbeats 4000000 in
theorem tells_any (w : World) (b : Nat) (D : Nat → Prop) (s : Qk.Sts) (S : ByteArray) (hS : S.size ≤ 1000) (h : Lks w b D s) :
    Calls Try.prog 16 #[.pointer (some ⟨b, 0, none⟩), .string S] w (HoldsP w (s S)) := by
  obtain ⟨m, n, f, ow, h⟩ := h
  rcases h.keys S with ⟨hf, hs⟩ | ⟨c, hf, hne, hL⟩
  · have HL := Lib.hid (look_any h.has h.map S hS none (Or.inl ⟨hf, rfl⟩))
    rw [hs]
    clear h hf hs hS
    go_enter Try.func16, Try.ntmps16
    go_wp2_with fail
    refine HL.out.mono ?_
    rintro e w' ⟨rfl, rfl⟩
    go_wp2
    go_ret2
    exact ⟨_, rfl, ⟨rfl, Or.inl ⟨rfl, rfl⟩⟩, Below.refl _ _⟩
  · have HL := Lib.hid (look_any h.has h.map S hS (some ⟨c, 0, none⟩) (Or.inr hf))
    have hle := (h.good S).le
    obtain ⟨hv, rv, hV⟩ := hL
    obtain ⟨a, cap, rfl⟩ := qo_form hV.h
    obtain ⟨c0, c1, -, -⟩ := hV.cells
    have hcl := hV.lt c hV.mine
    have HC := Lib.hid (fun q => qclone_any (s S).hs a _ cap (w.drewN q) hV.h (by omega) (List.length_pos_iff.2 hne))
    have HBX : Hid (∀ w', Below w.heap.size w w' → w'.cell? ⟨c, 1, none⟩ = some (.bool (s S).wr) ∧ w'.cell? ⟨c, 0, none⟩ = some (.slice a (s S).hs.length cap)) := fun w' hb => ⟨(hb.cell (p := ⟨c, 1, none⟩) hcl).trans c1, (hb.cell (p := ⟨c, 0, none⟩) hcl).trans c0⟩
    clear h hV hf hne hle hS
    go_enter Try.func16, Try.ntmps16
    go_wp2_with fail
    refine HL.out.mono ?_
    rintro e w' ⟨rfl, rfl⟩
    go_wp2_with fail
    go_region_held3 (fun wx => wx.cell? ⟨c, 1, none⟩ = some (.bool (s S).wr) ∧ wx.cell? ⟨c, 0, none⟩ = some (.slice a (s S).hs.length cap)) (first | exact ⟨c1, c0⟩ | with_reducible exact HKP) (first | (refine (HC.out _).mono ?_; rintro e w2 ⟨v, rfl, ho, hb0⟩; have hb := (below_drewN (Below.refl w'.heap.size w') 1).trans hb0; have HKP := HBX.out w2 hb; have HR := Lib.hid (And.intro ho hb); clear ho hb hb0))
    all_goals
      go_wp2
      go_ret2
      exact ⟨_, rfl, HR.out.1, HR.out.2⟩
end Go.Proofs.Ytoipmdemicdhoaa
