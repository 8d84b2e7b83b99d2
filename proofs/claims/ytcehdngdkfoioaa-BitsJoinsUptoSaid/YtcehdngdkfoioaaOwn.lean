/- Contracts of what the statements themselves call: own, kept, spoil. -/
import Derived.Test.YtcehdngdkfoioaaPairs
import Derived.Deep.RegionHeld3
namespace Go.Proofs.Ytcehdngdkfoioaa
open Go.RowKit

/-- A slice with a byte 0x77 behind its end, in a block of its own. -/
def Lent (w : World) (g len cap : Nat) (bs : List Nat) : Prop :=
  Sl w (.slice (some ⟨g, 0, none⟩) len cap) bs ∧ len + 1 ≤ cap ∧ g < w.heap.size ∧ w.cell? ⟨g, len, none⟩ = some (.int .u8 119)

theorem Lent.later {w w' : World} {g len cap : Nat} {bs : List Nat} (h : Lent w g len cap bs) (hb : Below w.heap.size w w') : Lent w' g len cap bs :=
  ⟨h.1.later hb, h.2.1, Nat.lt_of_lt_of_le h.2.2.1 hb.size, (hb.cell (p := ⟨g, len, none⟩) h.2.2.1).trans h.2.2.2⟩

theorem Sl.keep {B : Nat} {w w0 w' : World} {s : Value} {bs : List Nat} (h : Sl w0 s bs) (hB : w0.heap.size ≤ B) (h0 : Below w0.heap.size w0 w) (hb : Below B w w') : Sl w' s bs :=
  h.later (h0.trans (hb.mono hB))

/-- What own leaves. -/
def OwnPost (w : World) (bs : List Nat) (n : Int) (e : Ending) (w' : World) : Prop :=
  ∃ g cap, e = .returned (.agg #[.slice (some ⟨g, 0, none⟩) bs.length cap, .int .i64 n]) ∧ w.heap.size ≤ g ∧ Lent w' g bs.length cap bs ∧ Below w.heap.size w w'

theorem has_drew {w : World} {b : Nat} {o : Obj} (h : Has w b o) : Has w.drew b o := h

theorem own_app_zero {w : World} {base : Nat} {e : TypeId} {g c len : Nat} {xs : List Value} (h : w.ownsRow base e 1 (.slice (some ⟨g, 0, none⟩) (0 + len) c) (0 + len) ([] ++ xs)) : w.ownsRow base e 1 (.slice (some ⟨g, 0, none⟩) len c) len xs := by
  simpa using h

theorem own_base {w : World} {base : Nat} {e : TypeId} {g c n : Nat} {xs : List Value} (h : w.ownsRow base e 1 (.slice (some ⟨g, 0, none⟩) n c) n xs) : base ≤ g := by
  rcases h.2 with ⟨h, _⟩ | ⟨g', _, _, h, hb, _⟩
  · simp at h
  · injection h with h1 _ _
    injection h1 with h1
    injection h1 with h1
    omega

theorem own_cap {w : World} {base : Nat} {e : TypeId} {g c n : Nat} {xs : List Value} (h : w.ownsRow base e 1 (.slice (some ⟨g, 0, none⟩) n c) n xs) : n ≤ c := by
  rcases h.2 with ⟨h, _⟩ | ⟨g', cap, _, h, _, _, hc, _⟩
  · simp at h
  · injection h with _ _ h3
    omega

theorem own_ne' {w : World} {base n b g c : Nat} {xs : List Value} {cs : Array Value} {fr : Nat × Nat} (h : w.ownsRow base 5 1 (.slice (some ⟨g, 0, none⟩) n c) n xs) (hb : Has w b (.cells cs 24 fr)) : some b ≠ some g := by
  intro e
  exact own_ne h hb e.symm

theorem cell_new1 (w : World) (x : Value) : ∀ j u, [x][j]? = some u → (w.alloc (.cells #[x] 5)).cell? ((⟨w.heap.size, 0, none⟩ : Addr).add j) = some u := cell_one_new _ _ _

theorem cell_has1 {w : World} {b : Nat} {x : Value} (h : Has w b (.cells #[x] 5)) : ∀ j u, [x][j]? = some u → w.cell? ((⟨b, 0, none⟩ : Addr).add j) = some u := by
  intro j u hj
  match j, hj with
  | 0, hj =>
    simp at hj
    subst hj
    simpa [Addr.add] using h.one.1

theorem own_lent {w : World} {base g c len : Nat} {bs : List Nat} (h : w.ownsRow base 5 1 (.slice (some ⟨g, 0, none⟩) (len + 1) c) (len + 1) (vb bs ++ [.int .u8 119])) (hl : len = bs.length) (h8 : ∀ x ∈ bs, x < 256) (hle : len ≤ 281474976710656) : Lent w g len c bs := by
  have hcell : ∀ j, j < len + 1 → w.cell? ⟨g, j, none⟩ = (vb bs ++ [Value.int .u8 119])[j]? := fun j hj => h.cellAt j (by omega)
  have hlt : g < w.heap.size := by
    have := hcell len (by omega)
    rw [List.getElem?_append_right (by rw [vb_length]; omega)] at this
    have h2 : len - (vb bs).length = 0 := by rw [vb_length]; omega
    rw [h2] at this
    exact World.block_lt_of_cell? w _ this
  refine ⟨⟨_, len, c, rfl, hl, hle, fun h => by simp at h, h8, fun _ => ⟨g, 0, rfl, hlt, fun i hi => ?_⟩⟩, own_cap h, hlt, ?_⟩
  · rw [Nat.zero_add, hcell i (by omega), List.getElem?_append_left (by rw [vb_length]; omega), vb_get, List.getElem?_eq_getElem (by omega)]
    rfl
  · rw [hcell len (by omega), List.getElem?_append_right (by rw [vb_length]; omega)]
    have h2 : len - (vb bs).length = 0 := by rw [vb_length]; omega
    rw [h2]
    rfl

set_option maxHeartbeats 4000000 in
theorem own_walk (a : Option Addr) (len cap : Nat) (bs : List Nat) (n : Int) (w : World) (hs : Sl w (.slice a len cap) bs) (hl : len ≤ 140737488351232) :
    Calls Try.prog 11 #[.agg #[.slice a len cap, .int .i64 n]] w (OwnPost w bs n) := by
  have HS := Lib.hid hs
  have HL := Lib.hid hs.len.1
  have HN := Lib.hid hs.len.2.2
  obtain ⟨i0, hi, hz0, hz1, hz2⟩ := info_parts Try.infoU8
  clear hs
  have A2 : Hid ((vb bs).length = len * 1) := by
    show _ = _
    rw [vb_length, HL.out]; omega
  have A4 : Hid (0 + len ≤ maxLen) := by show _ ≤ _; unfold maxLen; omega
  have A5 : Hid ((0 + len) * 1 ≤ 140737488355328) := by show _ ≤ _; omega
  have D4 : Hid (len + 1 ≤ maxLen) := by show _ ≤ _; unfold maxLen; omega
  have D5 : Hid ((len + 1) * 1 ≤ 140737488355328) := by show _ ≤ _; omega
  have D3 : Hid (∀ u ∈ [Value.int .u8 119], u.oneCell' = true) := by intro u hu; simp at hu; subst hu; rfl
  have A11 : Hid (World.ownsRow ((((w.alloc (.cells #[.slice a len cap, .int .i64 n] 24)).alloc (.cells #[.slice none 0 0, .int .i64 0] 24)).alloc (.cells #[] 5)).drew) (w.heap.size + 2) 5 1 (.slice (some ⟨w.heap.size + 2, 0, none⟩) 0 0) 0 []) := by
    have h := World.ownsRow_lit (base := w.heap.size + 2) (e := 5) (size := 1) ((w.alloc (.cells #[.slice a len cap, .int .i64 n] 24)).alloc (.cells #[.slice none 0 0, .int .i64 0] 24)) #[] 0 (by simp) (by unfold maxLen; omega) rfl
    simp only [World.size_alloc] at h
    exact h.drew
  have A01 : Hid (Below w.heap.size w ((((w.alloc (.cells #[.slice a len cap, .int .i64 n] 24)).alloc (.cells #[.slice none 0 0, .int .i64 0] 24)).alloc (.cells #[] 5)).drew)) := below_drewN (below3 w (.cells #[.slice a len cap, .int .i64 n] 24) (.cells #[.slice none 0 0, .int .i64 0] 24) (.cells #[] 5)) 1
  have A31 : Hid (0 < len → ∃ ad, a = some ad ∧ ∀ j u, (vb bs)[j]? = some u → World.cell? ((((w.alloc (.cells #[.slice a len cap, .int .i64 n] 24)).alloc (.cells #[.slice none 0 0, .int .i64 0] 24)).alloc (.cells #[] 5)).drew) (ad.add j) = some u) := fun h => (HS.out.later A01.out).cells h
  have A61 : Hid (w.heap.size + 2 ≤ ((((w.alloc (.cells #[.slice a len cap, .int .i64 n] 24)).alloc (.cells #[.slice none 0 0, .int .i64 0] 24)).alloc (.cells #[] 5)).drew).heap.size) := by show _ ≤ _; simp
  have A71 : Hid (Has ((((w.alloc (.cells #[.slice a len cap, .int .i64 n] 24)).alloc (.cells #[.slice none 0 0, .int .i64 0] 24)).alloc (.cells #[] 5)).drew) w.heap.size (.cells #[.slice a len cap, .int .i64 n] 24)) := show Has (World.drew _) _ _ from has_drew (((Has.new w _).alloc _).alloc _)
  have A81 : Hid (Has ((((w.alloc (.cells #[.slice a len cap, .int .i64 n] 24)).alloc (.cells #[.slice none 0 0, .int .i64 0] 24)).alloc (.cells #[] 5)).drew) (w.heap.size + 1) (.cells #[.slice none 0 0, .int .i64 0] 24)) := by
    have h := has_drew ((Has.new (w.alloc (.cells #[.slice a len cap, .int .i64 n] 24)) (.cells #[.slice none 0 0, .int .i64 0] 24)).alloc (.cells #[] 5))
    simp only [World.size_alloc] at h
    exact h
  have A12 : Hid (World.ownsRow (((((w.alloc (.cells #[.slice a len cap, .int .i64 n] 24)).alloc (.cells #[.slice none 0 0, .int .i64 0] 24)).alloc (.cells #[] 5)).alloc (.cells #[.int .u8 119] 5)).drew) (w.heap.size + 2) 5 1 (.slice (some ⟨w.heap.size + 2, 0, none⟩) 0 0) 0 []) := by
    have h := World.ownsRow_lit (base := w.heap.size + 2) (e := 5) (size := 1) ((w.alloc (.cells #[.slice a len cap, .int .i64 n] 24)).alloc (.cells #[.slice none 0 0, .int .i64 0] 24)) #[] 0 (by simp) (by unfold maxLen; omega) rfl
    simp only [World.size_alloc] at h
    exact (h.alloc _).drew
  have A02 : Hid (Below w.heap.size w (((((w.alloc (.cells #[.slice a len cap, .int .i64 n] 24)).alloc (.cells #[.slice none 0 0, .int .i64 0] 24)).alloc (.cells #[] 5)).alloc (.cells #[.int .u8 119] 5)).drew)) := below_drewN ((below3 w (.cells #[.slice a len cap, .int .i64 n] 24) (.cells #[.slice none 0 0, .int .i64 0] 24) (.cells #[] 5)).alloc (by simp; omega) (.cells #[.int .u8 119] 5)) 1
  have A32 : Hid (0 < len → ∃ ad, a = some ad ∧ ∀ j u, (vb bs)[j]? = some u → World.cell? (((((w.alloc (.cells #[.slice a len cap, .int .i64 n] 24)).alloc (.cells #[.slice none 0 0, .int .i64 0] 24)).alloc (.cells #[] 5)).alloc (.cells #[.int .u8 119] 5)).drew) (ad.add j) = some u) := fun h => (HS.out.later A02.out).cells h
  have A62 : Hid (w.heap.size + 2 ≤ (((((w.alloc (.cells #[.slice a len cap, .int .i64 n] 24)).alloc (.cells #[.slice none 0 0, .int .i64 0] 24)).alloc (.cells #[] 5)).alloc (.cells #[.int .u8 119] 5)).drew).heap.size) := by show _ ≤ _; simp
  have A72 : Hid (Has (((((w.alloc (.cells #[.slice a len cap, .int .i64 n] 24)).alloc (.cells #[.slice none 0 0, .int .i64 0] 24)).alloc (.cells #[] 5)).alloc (.cells #[.int .u8 119] 5)).drew) w.heap.size (.cells #[.slice a len cap, .int .i64 n] 24)) := show Has (World.drew _) _ _ from has_drew ((((Has.new w _).alloc _).alloc _).alloc _)
  have A82 : Hid (Has (((((w.alloc (.cells #[.slice a len cap, .int .i64 n] 24)).alloc (.cells #[.slice none 0 0, .int .i64 0] 24)).alloc (.cells #[] 5)).alloc (.cells #[.int .u8 119] 5)).drew) (w.heap.size + 1) (.cells #[.slice none 0 0, .int .i64 0] 24)) := by
    have h := has_drew (((Has.new (w.alloc (.cells #[.slice a len cap, .int .i64 n] 24)) (.cells #[.slice none 0 0, .int .i64 0] 24)).alloc (.cells #[] 5)).alloc (.cells #[.int .u8 119] 5))
    simp only [World.size_alloc] at h
    exact h
  have A92 : Hid (Has (((((w.alloc (.cells #[.slice a len cap, .int .i64 n] 24)).alloc (.cells #[.slice none 0 0, .int .i64 0] 24)).alloc (.cells #[] 5)).alloc (.cells #[.int .u8 119] 5)).drew) (w.heap.size + 3) (.cells #[.int .u8 119] 5)) := by
    have h := has_drew (Has.new (((w.alloc (.cells #[.slice a len cap, .int .i64 n] 24)).alloc (.cells #[.slice none 0 0, .int .i64 0] 24)).alloc (.cells #[] 5)) (.cells #[.int .u8 119] 5))
    simp only [World.size_alloc] at h
    exact h
  have A13 : Hid (World.ownsRow (((((w.alloc (.cells #[.slice a len cap, .int .i64 n] 24)).alloc (.cells #[.slice none 0 0, .int .i64 0] 24)).alloc (.cells #[.int .u8 119] 5)).alloc (.cells #[] 5)).drew) (w.heap.size + 2) 5 1 (.slice (some ⟨w.heap.size + 3, 0, none⟩) 0 0) 0 []) := by
    have h := World.ownsRow_lit (base := w.heap.size + 2) (e := 5) (size := 1) (((w.alloc (.cells #[.slice a len cap, .int .i64 n] 24)).alloc (.cells #[.slice none 0 0, .int .i64 0] 24)).alloc (.cells #[.int .u8 119] 5)) #[] 0 (by simp) (by unfold maxLen; omega) rfl
    simp only [World.size_alloc] at h
    exact h.drew
  have A03 : Hid (Below w.heap.size w (((((w.alloc (.cells #[.slice a len cap, .int .i64 n] 24)).alloc (.cells #[.slice none 0 0, .int .i64 0] 24)).alloc (.cells #[.int .u8 119] 5)).alloc (.cells #[] 5)).drew)) := below_drewN ((below3 w (.cells #[.slice a len cap, .int .i64 n] 24) (.cells #[.slice none 0 0, .int .i64 0] 24) (.cells #[.int .u8 119] 5)).alloc (by simp; omega) (.cells #[] 5)) 1
  have A33 : Hid (0 < len → ∃ ad, a = some ad ∧ ∀ j u, (vb bs)[j]? = some u → World.cell? (((((w.alloc (.cells #[.slice a len cap, .int .i64 n] 24)).alloc (.cells #[.slice none 0 0, .int .i64 0] 24)).alloc (.cells #[.int .u8 119] 5)).alloc (.cells #[] 5)).drew) (ad.add j) = some u) := fun h => (HS.out.later A03.out).cells h
  have A63 : Hid (w.heap.size + 2 ≤ (((((w.alloc (.cells #[.slice a len cap, .int .i64 n] 24)).alloc (.cells #[.slice none 0 0, .int .i64 0] 24)).alloc (.cells #[.int .u8 119] 5)).alloc (.cells #[] 5)).drew).heap.size) := by show _ ≤ _; simp
  have A73 : Hid (Has (((((w.alloc (.cells #[.slice a len cap, .int .i64 n] 24)).alloc (.cells #[.slice none 0 0, .int .i64 0] 24)).alloc (.cells #[.int .u8 119] 5)).alloc (.cells #[] 5)).drew) w.heap.size (.cells #[.slice a len cap, .int .i64 n] 24)) := show Has (World.drew _) _ _ from has_drew ((((Has.new w _).alloc _).alloc _).alloc _)
  have A83 : Hid (Has (((((w.alloc (.cells #[.slice a len cap, .int .i64 n] 24)).alloc (.cells #[.slice none 0 0, .int .i64 0] 24)).alloc (.cells #[.int .u8 119] 5)).alloc (.cells #[] 5)).drew) (w.heap.size + 1) (.cells #[.slice none 0 0, .int .i64 0] 24)) := by
    have h := has_drew (((Has.new (w.alloc (.cells #[.slice a len cap, .int .i64 n] 24)) (.cells #[.slice none 0 0, .int .i64 0] 24)).alloc (.cells #[.int .u8 119] 5)).alloc (.cells #[] 5))
    simp only [World.size_alloc] at h
    exact h
  have A93 : Hid (Has (((((w.alloc (.cells #[.slice a len cap, .int .i64 n] 24)).alloc (.cells #[.slice none 0 0, .int .i64 0] 24)).alloc (.cells #[.int .u8 119] 5)).alloc (.cells #[] 5)).drew) (w.heap.size + 2) (.cells #[.int .u8 119] 5)) := by
    have h := has_drew ((Has.new ((w.alloc (.cells #[.slice a len cap, .int .i64 n] 24)).alloc (.cells #[.slice none 0 0, .int .i64 0] 24)) (.cells #[.int .u8 119] 5)).alloc (.cells #[] 5))
    simp only [World.size_alloc] at h
    exact h
  go_enter Try.func11, Try.ntmps11
  go_wp2
  go_region_held3 (fun wx => wx.cell? ⟨w.heap.size, 0, none⟩ = some (.slice a len cap) ∧ wx.cell? ⟨w.heap.size, 1, none⟩ = some (.int .i64 n)) (first | exact ⟨c0, c1⟩ | exact ⟨a0, a1⟩ | go_keep) (first | (refine step_append_mine rfl (.tmp 3) (.tmp 5) 22 rfl (w.heap.size + 2) 5 i0 (.int .u8 0) 1 1 Try.underlying22 hi hz0 hz1 hz2 rfl (by decide) (w.heap.size + 2) 0 0 [] (by simp [Act.eval]) A11.out a len cap (vb bs) (by simp [Act.eval]) A2.out HN.out A31.out (oneCell_vb _) A4.out A5.out A61.out ?_; intro g c w' ho hg; have k1 := A71.out.grown hg.out (by intro e; injection e; omega); have k2 := A81.out.grown hg.out (by intro e; injection e; omega); have hb := Lib.hid (A01.out.grown hg.out (by show _ ≤ Array.size _; simp; omega) (by intro k hk; injection hk; omega)); have hsz := hb.out.size; have ho2 := Lib.hid (own_app_zero ho.out); have hgb := own_base ho2.out; clear ho; have cc := k1.two; have a0 := cc.1; have a1 := cc.2.1; have z1 := k1.lt; have z2 := k2.lt; have K1 := Lib.hid k1; have K2 := Lib.hid k2; clear k1 k2 hg cc) | (refine step_append_mine rfl (.tmp 3) (.tmp 5) 22 rfl (w.heap.size + 2) 5 i0 (.int .u8 0) 1 1 Try.underlying22 hi hz0 hz1 hz2 rfl (by decide) (w.heap.size + 2) 0 0 [] (by simp [Act.eval]) A12.out a len cap (vb bs) (by simp [Act.eval]) A2.out HN.out A32.out (oneCell_vb _) A4.out A5.out A62.out ?_; intro g c w' ho hg; have k1 := A72.out.grown hg.out (by intro e; injection e; omega); have k2 := A82.out.grown hg.out (by intro e; injection e; omega); have hb := Lib.hid (A02.out.grown hg.out (by show _ ≤ Array.size _; simp; omega) (by intro k hk; injection hk; omega)); have hsz := hb.out.size; have ho2 := Lib.hid (own_app_zero ho.out); have hgb := own_base ho2.out; clear ho; have k9 := Lib.hid (A92.out.grown hg.out (by intro e; injection e; omega)); have cc := k1.two; have a0 := cc.1; have a1 := cc.2.1; have z1 := k1.lt; have z2 := k2.lt; have K1 := Lib.hid k1; have K2 := Lib.hid k2; clear k1 k2 hg cc) | (refine step_append_mine rfl (.tmp 3) (.tmp 5) 22 rfl (w.heap.size + 2) 5 i0 (.int .u8 0) 1 1 Try.underlying22 hi hz0 hz1 hz2 rfl (by decide) (w.heap.size + 3) 0 0 [] (by simp [Act.eval]) A13.out a len cap (vb bs) (by simp [Act.eval]) A2.out HN.out A33.out (oneCell_vb _) A4.out A5.out A63.out ?_; intro g c w' ho hg; have k1 := A73.out.grown hg.out (by intro e; injection e; omega); have k2 := A83.out.grown hg.out (by intro e; injection e; omega); have hb := Lib.hid (A03.out.grown hg.out (by show _ ≤ Array.size _; simp; omega) (by intro k hk; injection hk; omega)); have hsz := hb.out.size; have ho2 := Lib.hid (own_app_zero ho.out); have hgb := own_base ho2.out; clear ho; have k9 := Lib.hid (A93.out.grown hg.out (by intro e; injection e; omega)); have cc := k1.two; have a0 := cc.1; have a1 := cc.2.1; have z1 := k1.lt; have z2 := k2.lt; have K1 := Lib.hid k1; have K2 := Lib.hid k2; clear k1 k2 hg cc) | (refine step_append_mine rfl (.tmp 6) (.tmp 7) 22 rfl (w.heap.size + 2) 5 i0 (.int .u8 0) 1 1 Try.underlying22 hi hz0 hz1 hz2 rfl (by decide) g c len (vb bs) (by simp [Act.eval]) (World.ownsRow.alloc ho2.out _) (some ⟨w'.heap.size, 0, none⟩) 1 1 [.int .u8 119] (by simp [Act.eval]) rfl (fun h => by cases h) (fun _ => ⟨_, rfl, cell_new1 w' _⟩) D3.out D4.out D5.out (by have := K2.out.lt; show _ ≤ Array.size _; simp; omega) ?_; intro g' c' w'' ho hg; have k1 := (K1.out.alloc (.cells #[.int .u8 119] 5)).grown hg.out (own_ne' (World.ownsRow.alloc ho2.out (.cells #[.int .u8 119] 5)) (K1.out.alloc (.cells #[.int .u8 119] 5))); have k2 := (K2.out.alloc (.cells #[.int .u8 119] 5)).grown hg.out (own_ne' (World.ownsRow.alloc ho2.out (.cells #[.int .u8 119] 5)) (K2.out.alloc (.cells #[.int .u8 119] 5))); have hb2 := Lib.hid ((hb.out.alloc hb.out.size (.cells #[.int .u8 119] 5)).grown hg.out (by have := hb.out.size; show _ ≤ Array.size _; simp; omega) (by intro k hk; injection hk; omega)); have HO := Lib.hid ho.out; have hcap := own_cap ho.out; have hcap0 : len ≤ c' := Nat.le_of_succ_le hcap; have hgb2 := own_base ho.out; have n1 := Lib.hid (own_ne ho.out k1); have n2 := Lib.hid (own_ne ho.out k2); have cc := k1.two; have dd := k2.two; have c0 := cc.1; have c1 := cc.2.1; have d0 := dd.1; have d1 := dd.2.1; have d2 := dd.2.2.1; have d3 := dd.2.2.2; clear cc dd; clear ho hg k1 k2) | (refine step_append_mine rfl (.tmp 6) (.tmp 7) 22 rfl (w.heap.size + 2) 5 i0 (.int .u8 0) 1 1 Try.underlying22 hi hz0 hz1 hz2 rfl (by decide) g c len (vb bs) (by simp [Act.eval]) ho2.out (some ⟨w.heap.size + 3, 0, none⟩) 1 1 [.int .u8 119] (by simp [Act.eval]) rfl (fun h => by cases h) (fun _ => ⟨_, rfl, cell_has1 k9.out⟩) D3.out D4.out D5.out (by have := K2.out.lt; show _ ≤ Array.size _; omega) ?_; intro g' c' w'' ho hg; have k1 := K1.out.grown hg.out (own_ne' ho2.out K1.out); have k2 := K2.out.grown hg.out (own_ne' ho2.out K2.out); have hb2 := Lib.hid (hb.out.grown hg.out (by have := hb.out.size; show _ ≤ Array.size _; omega) (by intro k hk; injection hk; omega)); have HO := Lib.hid ho.out; have hcap := own_cap ho.out; have hcap0 : len ≤ c' := Nat.le_of_succ_le hcap; have hgb2 := own_base ho.out; have n1 := Lib.hid (own_ne ho.out k1); have n2 := Lib.hid (own_ne ho.out k2); have cc := k1.two; have dd := k2.two; have c0 := cc.1; have c1 := cc.2.1; have d0 := dd.1; have d1 := dd.2.1; have d2 := dd.2.2.1; have d3 := dd.2.2.2; clear cc dd; clear ho hg k1 k2) | (refine step_append_mine rfl (.tmp 6) (.tmp 7) 22 rfl (w.heap.size + 2) 5 i0 (.int .u8 0) 1 1 Try.underlying22 hi hz0 hz1 hz2 rfl (by decide) g c len (vb bs) (by simp [Act.eval]) ho2.out (some ⟨w.heap.size + 2, 0, none⟩) 1 1 [.int .u8 119] (by simp [Act.eval]) rfl (fun h => by cases h) (fun _ => ⟨_, rfl, cell_has1 k9.out⟩) D3.out D4.out D5.out (by have := K2.out.lt; show _ ≤ Array.size _; omega) ?_; intro g' c' w'' ho hg; have k1 := K1.out.grown hg.out (own_ne' ho2.out K1.out); have k2 := K2.out.grown hg.out (own_ne' ho2.out K2.out); have hb2 := Lib.hid (hb.out.grown hg.out (by have := hb.out.size; show _ ≤ Array.size _; omega) (by intro k hk; injection hk; omega)); have HO := Lib.hid ho.out; have hcap := own_cap ho.out; have hcap0 : len ≤ c' := Nat.le_of_succ_le hcap; have hgb2 := own_base ho.out; have n1 := Lib.hid (own_ne ho.out k1); have n2 := Lib.hid (own_ne ho.out k2); have cc := k1.two; have dd := k2.two; have c0 := cc.1; have c1 := cc.2.1; have d0 := dd.1; have d1 := dd.2.1; have d2 := dd.2.2.1; have d3 := dd.2.2.2; clear cc dd; clear ho hg k1 k2))
  all_goals go_wp2
  all_goals
    refine bodyPost_ret (v := .agg #[.slice (some ⟨g', 0, none⟩) len c', .int .i64 n]) (by simp [results, Try.results11, go_sem, d0, d1]) rfl ⟨g', c', ?_, by omega, ?_, set2_below hb2.out _ (by omega) _ _⟩
    · rw [HL.out]
    · have h := ownsRow_setCell_other (ownsRow_setCell_other HO.out (a := ⟨w.heap.size + 1, 0, none⟩) n2.out (.slice (some ⟨g', 0, none⟩) len c')) (a := ⟨w.heap.size + 1, 1, none⟩) n2.out (.int .i64 n)
      rw [← HL.out]
      exact own_lent h HL.out HS.out.facts.1 (by omega)
end Go.Proofs.Ytcehdngdkfoioaa
