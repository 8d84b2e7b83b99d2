/- Contracts of kept and spoil, which the statements themselves call. -/
import Derived.Test.YtcehdngdkfoioaaOwn
namespace Go.Proofs.Ytcehdngdkfoioaa
open Go.RowKit

set_option maxHeartbeats 2000000 in
theorem kept_walk (g len cap : Nat) (a2 : Option Addr) (c2 : Nat) (bs : List Nat) (n : Int) (w : World) (ht : Lent w g len cap bs) (hs : Sl w (.slice a2 len c2) bs) (hl : len ≤ 140737488351232) :
    Calls Try.prog 18 #[.agg #[.slice (some ⟨g, 0, none⟩) len cap, .int .i64 n], .agg #[.slice a2 len c2, .int .i64 n]] w fun e w' => e = .returned (.bool true) ∧ Below w.heap.size w w' := by
  have hb2 := below2 w (.cells #[.slice (some ⟨g, 0, none⟩) len cap, .int .i64 n] 24) (.cells #[.slice a2 len c2, .int .i64 n] 24)
  have T0 := Lib.hid (ht.later (below_drewN hb2 1))
  have S0 := Lib.hid (hs.later (below_drewN hb2 1))
  have hcell := T0.out.2.2.2
  have hcap := T0.out.2.1
  have hcap0 : (len : Int) + 1 ≤ (cap : Int) := by omega
  have hi0 : (0 : Int) ≤ (len : Int) + 1 := by omega
  have hgl := ht.2.2.1
  have hlt9 : (len : Int) < (len : Int) + 1 := by omega
  have hge9 : (0 : Int) ≤ (len : Int) := by omega
  have hp1 := ht.2.2.2
  have hwr : IntKind.i64.wrap ((len : Int) + 1) = (len : Int) + 1 := IntWalk.i64_in _ (by omega)
  clear ht hs
  have HB2 := Lib.hid hb2
  clear hb2
  go_enter Try.func18, Try.ntmps18
  go_wp2
  go_region_held3 (fun wx => wx.cell? ⟨w.heap.size, 0, none⟩ = some (.slice (some ⟨g, 0, none⟩) len cap) ∧ wx.cell? ⟨w.heap.size, 1, none⟩ = some (.int .i64 n) ∧ wx.cell? ⟨w.heap.size + 1, 0, none⟩ = some (.slice a2 len c2) ∧ wx.cell? ⟨w.heap.size + 1, 1, none⟩ = some (.int .i64 n) ∧ wx.cell? ⟨g, len, none⟩ = some (.int .u8 119)) (first | exact ⟨c0, c1, d0, d1, h9⟩ | go_keep) (first | (go_at_call 14; refine (same_is _ _ n n bs _ T0.out.1 S0.out rfl).mono ?_; rintro e w1 ⟨rfl, b1⟩; have k1 := (Has.alloc (Has.new w (.cells #[.slice (some ⟨g, 0, none⟩) len cap, .int .i64 n] 24)) (.cells #[.slice a2 len c2, .int .i64 n] 24)); have k2 := (Has.new (w.alloc (.cells #[.slice (some ⟨g, 0, none⟩) len cap, .int .i64 n] 24)) (.cells #[.slice a2 len c2, .int .i64 n] 24)); have T1 := Lib.hid (T0.out.later b1); have q1 := (has_drew k1).later b1; have q2 := (has_drew k2).later b1; simp only [World.size_alloc] at q2; have cc := q1.two; have dd := q2.two; have c0 := cc.1; have c1 := cc.2.1; have d0 := dd.1; have d1 := dd.2.1; have h9 := T1.out.2.2.2; have B1 := Lib.hid ((below_drewN HB2.out 1).trans (b1.mono (below_drewN HB2.out 1).size)); clear cc dd q1 q2 k1 k2 b1))
  all_goals
    go_wp2
    go_ret
    exact ⟨rfl, B1.out⟩

/-- Where an answer lies in memory of its own it does so later. -/
theorem Fresh.later {B : Nat} {w w' : World} {a : Option Addr} {m : Nat} {bs : List Nat} (h : Fresh B w a m bs) (hb : Below w.heap.size w w') : Fresh B w' a m bs := by
  rcases h with h | ⟨g, h1, h2, h3, h4⟩
  · exact Or.inl h
  · exact Or.inr ⟨g, h1, h2, h3, h4.later hb⟩

set_option maxHeartbeats 2000000 in
theorem spoil_none (n : Int) (w : World) (c : Nat) :
    Calls Try.prog 17 #[.agg #[.slice none 0 c, .int .i64 n]] w fun e w' => e = .returned (.tuple #[]) ∧ Below w.heap.size w w' := by
  go_enter Try.func17, Try.ntmps17
  go_wp2
  refine wp_loop_rounds 1 ?_
  rw [rounds_succ]
  go_wp2
  go_end0
  exact ⟨rfl, below1 _ _⟩

set_option maxHeartbeats 2000000 in
theorem spoil_own (g cap m : Nat) (bs : List Nat) (n : Int) (B : Nat) (w : World) (hh : Has w g (bytesObj bs)) (hm : Hid (m = bs.length)) (hB : B ≤ g) (hBs : B ≤ w.heap.size) (hml : m ≤ 281474976710656) :
    Calls Try.prog 17 #[.agg #[.slice (some ⟨g, 0, none⟩) m cap, .int .i64 n]] w fun e w' => e = .returned (.tuple #[]) ∧ Below B w w' := by
  have hgl := hh.lt
  have HH := Lib.hid (hh.alloc (.cells #[.slice (some ⟨g, 0, none⟩) m cap, .int .i64 n] 24))
  have HX := Lib.hid (Has.new w (.cells #[.slice (some ⟨g, 0, none⟩) m cap, .int .i64 n] 24))
  have HB : Hid (Below B w (w.alloc (.cells #[.slice (some ⟨g, 0, none⟩) m cap, .int .i64 n] 24))) := (Below.refl _ _).alloc hBs _
  have hne : ¬ w.heap.size = g := by omega
  have hne2 : ¬ g = w.heap.size := by omega
  clear hh
  go_enter Try.func17, Try.ntmps17
  go_wp2_with fail
  go_loopw [2] (fun s2 wr => ∃ (i : Nat) (bs' : List Nat), i ≤ m ∧ s2 = .int .i64 i ∧ Hid (m = bs'.length) ∧ Hid (Has wr g (bytesObj bs')) ∧ Hid (Has wr w.heap.size (.cells #[.slice (some ⟨g, 0, none⟩) m cap, .int .i64 n] 24)) ∧ Hid (Below B w wr)) (fun s _ => m - (intOf s).toNat)
  case atStart => exact ⟨0, bs, Nat.zero_le _, rfl, hm, HH, HX, HB⟩
  case round =>
    obtain ⟨i, bs', hi, rfl, hm', KH, KX, KB⟩ := hrel
    obtain ⟨c0, c1, f0, f1⟩ := KX.out.two
    by_cases hlt : i < m
    · obtain ⟨x, hx⟩ : ∃ x : Nat, bs'[i]? = some x := ⟨_, List.getElem?_eq_getElem (by have := hm'.out; omega)⟩
      have hc : wr.cell? ⟨g, i, none⟩ = some (.int .u8 (x : Int)) := by
        rw [KH.out.cell]
        simp [vb, hx]
      have hf := KH.out.free i
      have HXX := Lib.hid hx
      have hlt' : (i : Int) < (m : Int) := by omega
      have hi0 : (0 : Int) ≤ (i : Int) := by omega
      clear hx
      go_wp2
      go_region
      all_goals go_wp2
      all_goals
        refine ⟨⟨i + 1, bs'.set i ((x + 1) % 256), by omega, by go_num, ?_, ?_, ?_, ?_⟩, ?_⟩
        · show _ = _
          rw [List.length_set]
          exact hm'.out
        · have h := KH.out.setSelf (i := i) (.int .u8 (((x : Int) + 1) % 256))
          have e : (((x : Int) + 1) % 256) = (((x + 1) % 256 : Nat) : Int) := by omega
          have h2 : Has (wr.setCell ⟨g, i, none⟩ (.int .u8 (((x : Int) + 1) % 256))) g (bytesObj (bs'.set i ((x + 1) % 256))) := by
            unfold bytesObj
            rw [vb_set, ← e]
            simpa using h
          exact has_drew h2
        · exact has_drew (KX.out.set hne _)
        · exact (KB.out.setCell (by exact hB) _).drew
        · simp [intOf]; omega
    · have he : ¬ (i : Int) < (m : Int) := by omega
      go_wp2
      go_end0
      exact ⟨rfl, KB.out⟩
end Go.Proofs.Ytcehdngdkfoioaa
