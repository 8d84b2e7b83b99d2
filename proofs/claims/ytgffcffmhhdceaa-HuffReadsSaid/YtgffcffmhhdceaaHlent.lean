/- Contract of the law's lent: a row in memory of its own. -/
import Derived.Test.YtgffcffmhhdceaaHpair
import Derived.Test.YtgffcffmhhdceaaHarg
namespace Go.Proofs.Ytgffcffmhhdceaa
open Go.RowKit

theorem has_drew {w : World} {b : Nat} {o : Obj} (h : Has w b o) : Has w.drew b o := h
theorem own_app_zero {w : World} {base : Nat} {e : TypeId} {g c len : Nat} {xs : List Value} (h : w.ownsRow base e 1 (.slice (some ⟨g, 0, none⟩) (0 + len) c) (0 + len) ([] ++ xs)) : w.ownsRow base e 1 (.slice (some ⟨g, 0, none⟩) len c) len xs := by
  simpa using h
theorem own_base {w : World} {base : Nat} {e : TypeId} {g c n : Nat} {xs : List Value} (h : w.ownsRow base e 1 (.slice (some ⟨g, 0, none⟩) n c) n xs) : base ≤ g := by
  rcases h.2 with ⟨h, _⟩ | ⟨g', _, _, h, hb, _⟩
  · simp at h
  · injection h with h1 _ _
    injection h1 with h1
    injection h1 with h1
    omega

theorem own_sl {w : World} {base g c len : Nat} {bs : List Nat} (h : w.ownsRow base 5 1 (.slice (some ⟨g, 0, none⟩) len c) len (vb bs)) (h8 : ∀ x ∈ bs, x < 256) (hle : len ≤ 281474976710656) : Sl w (.slice (some ⟨g, 0, none⟩) len c) bs := Sl.owned h h8 hle

/-- A row of the call's own is answered. -/
def LentPost (w : World) (bs : List Nat) (n : Int) (e : Ending) (w' : World) : Prop :=
  ∃ g c, e = .returned (.agg #[.slice (some ⟨g, 0, none⟩) bs.length c, .int .i64 n]) ∧ Sl w' (.slice (some ⟨g, 0, none⟩) bs.length c) bs ∧ Below w.heap.size w w'

set_option maxHeartbeats 4000000 in
theorem lent_walk (a : Option Addr) (len cap : Nat) (bs : List Nat) (n : Int) (w : World) (hs : Sl w (.slice a len cap) bs) (hl : len ≤ 140737488351232) :
    Calls Try.prog 17 #[.agg #[.slice a len cap, .int .i64 n]] w (LentPost w bs n) := by
  have HS := Lib.hid hs
  have HL := Lib.hid hs.len.1
  have HN := Lib.hid hs.len.2.2
  obtain ⟨i0, hi, hz0, hz1, hz2⟩ := info_parts Try.infoU8
  clear hs
  have A2 : Hid ((vb bs).length = len * 1) := by
    show _ = _
    rw [vb_length, HL.out]; omega
  have A4 : Hid (0 + len ≤ maxLen) := by show _ ≤ _; unfold maxLen; omega
  have A5 : Hid ((0 + len) * 1 ≤ 140737488355328) := by show _ ≤ _; omega
  have A11 : Hid (World.ownsRow ((((w.alloc (.cells #[.slice a len cap, .int .i64 n] 36)).alloc (.cells #[.slice none 0 0, .int .i64 0] 36)).alloc (.cells #[] 5)).drew) (w.heap.size + 2) 5 1 (.slice (some ⟨w.heap.size + 2, 0, none⟩) 0 0) 0 []) := by
    have h := World.ownsRow_lit (base := w.heap.size + 2) (e := 5) (size := 1) ((w.alloc (.cells #[.slice a len cap, .int .i64 n] 36)).alloc (.cells #[.slice none 0 0, .int .i64 0] 36)) #[] 0 (by simp) (by unfold maxLen; omega) rfl
    simp only [World.size_alloc] at h
    exact h.drew
  have A01 : Hid (Below w.heap.size w ((((w.alloc (.cells #[.slice a len cap, .int .i64 n] 36)).alloc (.cells #[.slice none 0 0, .int .i64 0] 36)).alloc (.cells #[] 5)).drew)) := below_drewN (below3 w (.cells #[.slice a len cap, .int .i64 n] 36) (.cells #[.slice none 0 0, .int .i64 0] 36) (.cells #[] 5)) 1
  have A31 : Hid (0 < len → ∃ ad, a = some ad ∧ ∀ j u, (vb bs)[j]? = some u → World.cell? ((((w.alloc (.cells #[.slice a len cap, .int .i64 n] 36)).alloc (.cells #[.slice none 0 0, .int .i64 0] 36)).alloc (.cells #[] 5)).drew) (ad.add j) = some u) := fun h => (HS.out.later A01.out).cells h
  have A61 : Hid (w.heap.size + 2 ≤ ((((w.alloc (.cells #[.slice a len cap, .int .i64 n] 36)).alloc (.cells #[.slice none 0 0, .int .i64 0] 36)).alloc (.cells #[] 5)).drew).heap.size) := by show _ ≤ _; simp
  have A71 : Hid (Has ((((w.alloc (.cells #[.slice a len cap, .int .i64 n] 36)).alloc (.cells #[.slice none 0 0, .int .i64 0] 36)).alloc (.cells #[] 5)).drew) w.heap.size (.cells #[.slice a len cap, .int .i64 n] 36)) := show Has (World.drew _) _ _ from has_drew (((Has.new w _).alloc _).alloc _)
  have A81 : Hid (Has ((((w.alloc (.cells #[.slice a len cap, .int .i64 n] 36)).alloc (.cells #[.slice none 0 0, .int .i64 0] 36)).alloc (.cells #[] 5)).drew) (w.heap.size + 1) (.cells #[.slice none 0 0, .int .i64 0] 36)) := by
    have h := has_drew ((Has.new (w.alloc (.cells #[.slice a len cap, .int .i64 n] 36)) (.cells #[.slice none 0 0, .int .i64 0] 36)).alloc (.cells #[] 5))
    simp only [World.size_alloc] at h
    exact h
  go_enter Try.func17, Try.ntmps17
  go_wp2
  go_region_held3 (fun wx => wx.cell? ⟨w.heap.size, 0, none⟩ = some (.slice a len cap) ∧ wx.cell? ⟨w.heap.size, 1, none⟩ = some (.int .i64 n)) (first | exact ⟨c0, c1⟩ | exact ⟨a0, a1⟩ | go_keep) (first | (refine step_append_mine rfl (.tmp 3) (.tmp 5) 34 rfl (w.heap.size + 2) 5 i0 (.int .u8 0) 1 1 Try.underlying34 hi hz0 hz1 hz2 rfl (by decide) (w.heap.size + 2) 0 0 [] (by simp [Act.eval]) A11.out a len cap (vb bs) (by simp [Act.eval]) A2.out HN.out A31.out (oneCell_vb _) A4.out A5.out A61.out ?_; intro g c w' ho hg; have k1 := A71.out.grown hg.out (by intro e; injection e; omega); have k2 := A81.out.grown hg.out (by intro e; injection e; omega); have hb := Lib.hid (A01.out.grown hg.out (by show _ ≤ Array.size _; simp; omega) (by intro k hk; injection hk; omega)); have hsz := hb.out.size; have ho2 := Lib.hid (own_app_zero ho.out); have hgb := own_base ho2.out; clear ho; have cc := k1.two; have a0 := cc.1; have a1 := cc.2.1; have z1 := k1.lt; have z2 := k2.lt; have K1 := Lib.hid k1; have K2 := Lib.hid k2; have n2 := Lib.hid (own_ne ho2.out k2); have dd := k2.two; have d0 := dd.1; have d1 := dd.2.1; have d2 := dd.2.2.1; have d3 := dd.2.2.2; clear k1 k2 hg cc dd))
  all_goals go_wp2
  all_goals
    refine bodyPost_ret (v := .agg #[.slice (some ⟨g, 0, none⟩) len c, .int .i64 n]) (by simp [results, Try.results17, go_sem, d0, d1]) rfl ⟨g, c, ?_, ?_, set2_below hb.out _ (by omega) _ _⟩
    · rw [HL.out]
    · have h := ownsRow_setCell_other (ownsRow_setCell_other ho2.out (a := ⟨w.heap.size + 1, 0, none⟩) n2.out (.slice (some ⟨g, 0, none⟩) len c)) (a := ⟨w.heap.size + 1, 1, none⟩) n2.out (.int .i64 n)
      rw [← HL.out]
      exact own_sl h HS.out.facts.1 (by omega)
end Go.Proofs.Ytgffcffmhhdceaa
