/- The statement BitsJoins, up to its bulk: any rows are filled up to a whole byte and joined as the document says, in memory of their own, or refused. It holds where the two rows are together of bulk at most 1048576. -/
import Derived.Test.YtcehdngdkfoioaaRjoin
import Derived.Test.YtcehdngdkfoioaaKept
import Derived.Test.YtcehdngdkfoioaaPuts
import Derived.Test.YtcehdngdkfoioaaBulk
namespace Go.Proofs.Ytcehdngdkfoioaa
open Go.ChangeShapes Go.WideShapes Go.ChangeAt Go.RowKit

theorem Lent.alloc {w : World} {g len cap : Nat} {bs : List Nat} (h : Lent w g len cap bs) (o : Obj) : Lent (w.alloc o) g len cap bs := h.later (below1 w o)
theorem Lent.drew {w : World} {g len cap : Nat} {bs : List Nat} (h : Lent w g len cap bs) : Lent w.drew g len cap bs := h.later ((Below.refl _ _).drew)
theorem Lent.set {w : World} {g len cap : Nat} {bs : List Nat} (h : Lent w g len cap bs) {a : Addr} (hne : g ≠ a.block) (v : Value) : Lent (w.setCell a v) g len cap bs := by
  obtain ⟨⟨x, l, c, he, h1, h2, h3, h4, h5⟩, hc, hg, h9⟩ := h
  injection he with e1 e2 e3
  subst e1 e2 e3
  have hs : (w.setCell a v).heap.size = w.heap.size := by simp [World.setCell]
  have hcell : ∀ o, (w.setCell a v).cell? ⟨g, o, none⟩ = w.cell? ⟨g, o, none⟩ := fun o => World.cell?_of_block (Below.heap_setCell w a v g hne)
  refine ⟨⟨_, _, _, rfl, h1, h2, h3, h4, fun h0 => ?_⟩, hc, by rw [hs]; exact hg, by rw [hcell]; exact h9⟩
  obtain ⟨b, off, e, hb, hcc⟩ := h5 h0
  injection e with e
  injection e with e1 e2
  subst e1 e2
  exact ⟨g, 0, rfl, by rw [hs]; exact hg, fun i hi => by rw [hcell]; exact hcc i hi⟩

/-- Two variables that hold lent rows. -/
def TwoLent (W wx : World) (s5 s6 : Value) (bs cs : List Nat) (N M : Int) : Prop :=
  ∃ p5 p6 g1 cap1 g2 cap2, s5 = .pointer (some ⟨p5, 0, none⟩) ∧ s6 = .pointer (some ⟨p6, 0, none⟩) ∧ Has wx p5 (rowVar (some ⟨g1, 0, none⟩) bs.length cap1 N) ∧ Has wx p6 (rowVar (some ⟨g2, 0, none⟩) cs.length cap2 M) ∧
    Lent wx g1 bs.length cap1 bs ∧ Lent wx g2 cs.length cap2 cs ∧ Below W.heap.size W wx

theorem TwoLent.swap {W wx : World} {s5 s6 : Value} {bs cs : List Nat} {N M : Int} (h : TwoLent W wx s5 s6 bs cs N M) : TwoLent W wx s6 s5 cs bs M N := by
  obtain ⟨p5, p6, g1, cap1, g2, cap2, h1, h2, h3, h4, h5, h6, h7⟩ := h
  exact ⟨p6, p5, g2, cap2, g1, cap1, h2, h1, h4, h3, h6, h5, h7⟩

theorem Has.sets {w : World} {b : Nat} {x y : Value} {t : TypeId} (h : Has w b (.cells #[x, y] t (0, 0))) (u v : Value) : Has ((w.setCell ⟨b, 0, none⟩ u).setCell ⟨b, 1, none⟩ v) b (.cells #[u, v] t (0, 0)) := by
  have h1 := h.setSelf (i := 0) u
  have h2 := Has.setSelf h1 (i := 1) v
  simpa using h2

theorem two_aa {W w : World} {bs cs : List Nat} {N M : Int} {g1 cap1 g2 cap2 : Nat} (t1 : Lent w g1 bs.length cap1 bs) (t2 : Lent w g2 cs.length cap2 cs) (hb : Below W.heap.size W w) :
    TwoLent W ((w.alloc (.cells #[.slice (some ⟨g1, 0, none⟩) bs.length cap1, .int .i64 N] 24)).alloc (.cells #[.slice (some ⟨g2, 0, none⟩) cs.length cap2, .int .i64 M] 24)) (.pointer (some ⟨w.heap.size, 0, none⟩)) (.pointer (some ⟨w.heap.size + 1, 0, none⟩)) bs cs N M := by
  refine ⟨_, _, g1, cap1, g2, cap2, rfl, rfl, (Has.new _ _).alloc _, ?_, (t1.alloc _).alloc _, (t2.alloc _).alloc _, hb.trans ((below2 w _ _).mono hb.size)⟩
  have h := Has.new (w.alloc (.cells #[.slice (some ⟨g1, 0, none⟩) bs.length cap1, .int .i64 N] 24)) (.cells #[.slice (some ⟨g2, 0, none⟩) cs.length cap2, .int .i64 M] 24)
  rw [World.size_alloc] at h
  exact h

theorem two_sa {W w : World} {bs cs : List Nat} {N M : Int} {p g1 cap1 g2 cap2 : Nat} {x y : Value} (hp : Has w p (.cells #[x, y] 24)) (t1 : Lent w g1 bs.length cap1 bs) (t2 : Lent w g2 cs.length cap2 cs) (hb : Below W.heap.size W w) (n1 : g1 ≠ p) (n2 : g2 ≠ p) (hW : W.heap.size ≤ p) :
    TwoLent W (((w.setCell ⟨p, 0, none⟩ (.slice (some ⟨g1, 0, none⟩) bs.length cap1)).setCell ⟨p, 1, none⟩ (.int .i64 N)).alloc (.cells #[.slice (some ⟨g2, 0, none⟩) cs.length cap2, .int .i64 M] 24)) (.pointer (some ⟨p, 0, none⟩)) (.pointer (some ⟨w.heap.size, 0, none⟩)) bs cs N M := by
  have hz : ((w.setCell ⟨p, 0, none⟩ (.slice (some ⟨g1, 0, none⟩) bs.length cap1)).setCell ⟨p, 1, none⟩ (.int .i64 N)).heap.size = w.heap.size := by simp [World.setCell]
  have hb2 := (hb.setCell (by exact hW : W.heap.size ≤ (⟨p, 0, none⟩ : Addr).block) (.slice (some ⟨g1, 0, none⟩) bs.length cap1)).setCell (by exact hW : W.heap.size ≤ (⟨p, 1, none⟩ : Addr).block) (.int .i64 N)
  have h := Has.new ((w.setCell ⟨p, 0, none⟩ (.slice (some ⟨g1, 0, none⟩) bs.length cap1)).setCell ⟨p, 1, none⟩ (.int .i64 N)) (.cells #[.slice (some ⟨g2, 0, none⟩) cs.length cap2, .int .i64 M] 24)
  rw [hz] at h
  exact ⟨_, _, g1, cap1, g2, cap2, rfl, rfl, (hp.sets _ _).alloc _, h, ((t1.set n1 _).set n1 _).alloc _, ((t2.set n2 _).set n2 _).alloc _, hb2.trans ((below1 _ _).mono hb2.size)⟩

theorem two_ss {W w : World} {bs cs : List Nat} {N M : Int} {p q g1 cap1 g2 cap2 : Nat} {x y x2 y2 : Value} (hp : Has w p (.cells #[x, y] 24)) (hq : Has w q (.cells #[x2, y2] 24)) (hpq : p ≠ q) (t1 : Lent w g1 bs.length cap1 bs) (t2 : Lent w g2 cs.length cap2 cs) (hb : Below W.heap.size W w) (n1 : g1 ≠ p) (n2 : g2 ≠ p) (n3 : g1 ≠ q) (n4 : g2 ≠ q) (hW : W.heap.size ≤ p) (hW2 : W.heap.size ≤ q) :
    TwoLent W ((((w.setCell ⟨p, 0, none⟩ (.slice (some ⟨g1, 0, none⟩) bs.length cap1)).setCell ⟨p, 1, none⟩ (.int .i64 N)).setCell ⟨q, 0, none⟩ (.slice (some ⟨g2, 0, none⟩) cs.length cap2)).setCell ⟨q, 1, none⟩ (.int .i64 M)) (.pointer (some ⟨p, 0, none⟩)) (.pointer (some ⟨q, 0, none⟩)) bs cs N M := by
  have hb2 := (hb.setCell (by exact hW : W.heap.size ≤ (⟨p, 0, none⟩ : Addr).block) (.slice (some ⟨g1, 0, none⟩) bs.length cap1)).setCell (by exact hW : W.heap.size ≤ (⟨p, 1, none⟩ : Addr).block) (.int .i64 N)
  have hb3 := (hb2.setCell (by exact hW2 : W.heap.size ≤ (⟨q, 0, none⟩ : Addr).block) (.slice (some ⟨g2, 0, none⟩) cs.length cap2)).setCell (by exact hW2 : W.heap.size ≤ (⟨q, 1, none⟩ : Addr).block) (.int .i64 M)
  exact ⟨_, _, g1, cap1, g2, cap2, rfl, rfl, (((hp.sets _ _).set hpq _).set hpq _), (Has.sets (((hq.set hpq.symm _).set hpq.symm _)) _ _), ((((t1.set n1 _).set n1 _).set n3 _).set n3 _), ((((t2.set n2 _).set n2 _).set n4 _).set n4 _), hb3⟩

theorem hasdrew {w : World} {b : Nat} {o : Obj} (h : Has w b o) : Has w.drew b o := h

set_option maxHeartbeats 2000000 in
theorem spoil_own2 (g cap m : Nat) (bs : List Nat) (n : Int) (B : Nat) (w : World) (hh : Has w g (bytesObj bs)) (hm : Hid (m = bs.length)) (hB : B ≤ g) (hBs : B ≤ w.heap.size) (hml : m ≤ 281474976710656) :
    Calls Try.prog 17 #[.agg #[.slice (some ⟨g, 0, none⟩) m cap, .int .i64 n]] w fun e w' => e = .returned (.tuple #[]) ∧ Below B w w' ∧ ∀ k o, k ≠ g → Has w k o → Has w' k o := by
  have hgl := hh.lt
  have HH := Lib.hid (hh.alloc (.cells #[.slice (some ⟨g, 0, none⟩) m cap, .int .i64 n] 24))
  have HX := Lib.hid (Has.new w (.cells #[.slice (some ⟨g, 0, none⟩) m cap, .int .i64 n] 24))
  have HB : Hid (Below B w (w.alloc (.cells #[.slice (some ⟨g, 0, none⟩) m cap, .int .i64 n] 24))) := (Below.refl _ _).alloc hBs _
  have HO : Hid (∀ k o, k ≠ g → Has w k o → Has (w.alloc (.cells #[.slice (some ⟨g, 0, none⟩) m cap, .int .i64 n] 24)) k o) := fun k o _ h => h.alloc _
  have hne : ¬ w.heap.size = g := by omega
  have hne2 : ¬ g = w.heap.size := by omega
  clear hh
  go_enter Try.func17, Try.ntmps17
  go_wp2_with fail
  go_loopw [2] (fun s2 wr => ∃ (i : Nat) (bs' : List Nat), i ≤ m ∧ s2 = .int .i64 i ∧ Hid (m = bs'.length) ∧ Hid (Has wr g (bytesObj bs')) ∧ Hid (Has wr w.heap.size (.cells #[.slice (some ⟨g, 0, none⟩) m cap, .int .i64 n] 24)) ∧ Hid (Below B w wr) ∧ Hid (∀ k o, k ≠ g → Has w k o → Has wr k o)) (fun s _ => m - (intOf s).toNat)
  case atStart => exact ⟨0, bs, Nat.zero_le _, rfl, hm, HH, HX, HB, HO⟩
  case round =>
    obtain ⟨i, bs', hi, rfl, hm', KH, KX, KB, KO⟩ := hrel
    obtain ⟨c0, c1, f0, f1⟩ := KX.out.two
    by_cases hlt : i < m
    · obtain ⟨x, hx⟩ : ∃ x : Nat, bs'[i]? = some x := ⟨_, List.getElem?_eq_getElem (by have := hm'.out; omega)⟩
      have hc : wr.cell? ⟨g, i, none⟩ = some (.int .u8 (x : Int)) := by
        rw [KH.out.cell]
        simp [vb, hx]
      have hf := KH.out.free i
      have HXX := Lib.hid hx
      have hlt' : (i : Int) < (m : Int) := by omega
      have hi0 : (0 : Int) ≤ (i : Int) := by omega
      clear hx
      go_wp2
      go_region
      all_goals go_wp2
      all_goals
        refine ⟨⟨i + 1, bs'.set i ((x + 1) % 256), by omega, by go_num, ?_, ?_, ?_, ?_, ?_⟩, ?_⟩
        · show _ = _
          rw [List.length_set]
          exact hm'.out
        · have h := KH.out.setSelf (i := i) (.int .u8 (((x : Int) + 1) % 256))
          have e : (((x : Int) + 1) % 256) = (((x + 1) % 256 : Nat) : Int) := by omega
          have h2 : Has (wr.setCell ⟨g, i, none⟩ (.int .u8 (((x : Int) + 1) % 256))) g (bytesObj (bs'.set i ((x + 1) % 256))) := by
            unfold bytesObj
            rw [vb_set, ← e]
            simpa using h
          exact has_drew h2
        · exact has_drew (KX.out.set hne _)
        · exact (KB.out.setCell (by exact hB) _).drew
        · exact fun k o hk h => has_drew ((KO.out k o hk h).set hk _)
        · simp [intOf]; omega
    · have he : ¬ (i : Int) < (m : Int) := by omega
      go_wp2
      go_end0
      exact ⟨rfl, KB.out, KO.out⟩

theorem spoil_any2 (a : Option Addr) (m cap : Nat) (bs : List Nat) (n : Int) (B : Nat) (w : World) (hf : Fresh B w a m bs) (hml : m ≤ 281474976710656) (hBs : B ≤ w.heap.size) :
    Calls Try.prog 17 #[.agg #[.slice a m cap, .int .i64 n]] w fun e w' => e = .returned (.tuple #[]) ∧ Below B w w' ∧ ∀ k o, (∀ g, a = some ⟨g, 0, none⟩ → k ≠ g) → Has w k o → Has w' k o := by
  rcases hf with ⟨rfl, rfl⟩ | ⟨g, rfl, h2, h3, h4⟩
  · exact (spoil_none n w cap).mono fun e w' h => ⟨h.1, h.2.mono hBs, fun k o _ hk => hk.later h.2⟩
  · exact (spoil_own2 g cap m bs n B w h4 h2 h3 hBs hml).mono fun e w' h => ⟨h.1, h.2.1, fun k o hk => h.2.2 k o (hk g rfl)⟩

theorem Fresh.kept {B B2 : Nat} {w0 w w' : World} {a a2 : Option Addr} {m m2 : Nat} {bs cs : List Nat} (h : Fresh B2 w a2 m2 cs) (h0 : Fresh B w0 a m bs) (hB : w0.heap.size ≤ B2) (hk : ∀ k o, (∀ g, a = some ⟨g, 0, none⟩ → k ≠ g) → Has w k o → Has w' k o) : Fresh B2 w' a2 m2 cs := by
  rcases h with h | ⟨g, h1, h2, h3, h4⟩
  · exact Or.inl h
  · refine Or.inr ⟨g, h1, h2, h3, hk g _ (fun g' e => ?_) h4⟩
    rcases h0 with ⟨e2, _⟩ | ⟨g2, e2, _, _, e5⟩
    · rw [e2] at e; cases e
    · rw [e2] at e
      injection e with e
      injection e with e
      subst e
      have := e5.lt
      omega

theorem Fresh.box {B k : Nat} {w0 w w' : World} {a : Option Addr} {m : Nat} {bs : List Nat} {o : Obj} (h : Has w k o) (h0 : Fresh B w0 a m bs) (hB : w0.heap.size ≤ k) (hk : ∀ k o, (∀ g, a = some ⟨g, 0, none⟩ → k ≠ g) → Has w k o → Has w' k o) : Has w' k o := by
  refine hk k _ (fun g' e => ?_) h
  rcases h0 with ⟨e2, _⟩ | ⟨g2, e2, _, _, e5⟩
  · rw [e2] at e; cases e
  · rw [e2] at e
    injection e with e
    injection e with e
    subst e
    have := e5.lt
    omega

theorem kept_any (g len cap : Nat) (a2 : Option Addr) (len2 c2 : Nat) (bs : List Nat) (n : Int) (w : World) (ht : Lent w g len cap bs) (hs : Sl w (.slice a2 len2 c2) bs) (he : Hid (len2 = len)) (hl : len ≤ 140737488351232) :
    Calls Try.prog 18 #[.agg #[.slice (some ⟨g, 0, none⟩) len cap, .int .i64 n], .agg #[.slice a2 len2 c2, .int .i64 n]] w fun e w' => e = .returned (.bool true) ∧ Below w.heap.size w w' := by
  have h := he.out
  subst h
  exact kept_walk g len2 cap a2 c2 bs n w ht hs hl

set_option maxHeartbeats 8000000 in
theorem bitsJoins_walk (s : Value) (bs : List Nat) (N : Int) (t : Value) (cs : List Nat) (M : Int) (w : World) (hs : Sl w s bs) (hl : bs.length ≤ 1048576) (_ : -9223372036854775808 ≤ N) (hN : N ≤ 9223372036854775807)
    (ht : Sl w t cs) (hl2 : cs.length ≤ 1048576) (_ : -9223372036854775808 ≤ M) (hM : M ≤ 9223372036854775807) :
    Calls Try.prog 6 #[.agg #[s, .int .i64 N], .agg #[t, .int .i64 M]] w fun e w' => e = .returned (.bool true) ∧ Below w.heap.size w w' := by
  obtain ⟨js, jn, jc, hJ, hK⟩ := join_pair bs cs N M hs.facts.1 ht.facts.1 hl hl2 hN hM
  obtain ⟨zs, an, ac, hA, hB⟩ := align_pair bs N hs.facts.1 hl hN
  have HJ := Lib.hid hJ
  have HK := Lib.hid hK
  have HA := Lib.hid hA
  have HB := Lib.hid hB
  have HS := Lib.hid hs
  have HT := Lib.hid ht
  obtain ⟨a, len, cap, rfl, hlen⟩ := hs.shape
  obtain ⟨a2, len2, cap2, rfl, hlen2⟩ := ht.shape
  have HL := Lib.hid hlen
  have HL2 := Lib.hid hlen2
  have hlw : len ≤ 140737488351232 := by omega
  have hlw2 : len2 ≤ 140737488351232 := by omega
  clear hJ hK hA hB hs ht hlen hlen2
  go_enter Try.func6, Try.ntmps6
  go_upto_region 1 with fail
  obtain ⟨wa, hwa⟩ : ∃ wa, wa = (w.alloc (.cells #[.slice a len cap, .int .i64 N] 24)).alloc (.cells #[.slice a2 len2 cap2, .int .i64 M] 24) := ⟨_, rfl⟩
  have KB := Lib.hid ((Has.new w (.cells #[.slice a len cap, .int .i64 N] 24)).alloc (.cells #[.slice a2 len2 cap2, .int .i64 M] 24))
  have KM0 := Has.new (w.alloc (.cells #[.slice a len cap, .int .i64 N] 24)) (.cells #[.slice a2 len2 cap2, .int .i64 M] 24)
  rw [World.size_alloc] at KM0
  have KM := Lib.hid KM0
  have BA := Lib.hid (below2 w (.cells #[.slice a len cap, .int .i64 N] 24) (.cells #[.slice a2 len2 cap2, .int .i64 M] 24))
  rw [← hwa] at KB KM BA
  rw [← hwa]
  have SA := Lib.hid (HS.out.later BA.out)
  have SM := Lib.hid (HT.out.later BA.out)
  clear hwa KM0
  obtain ⟨c0, c1, _, _⟩ := KB.out.two
  obtain ⟨d0, d1, _, _⟩ := KM.out.two
  have hza := KB.out.lt
  have hzb := KM.out.lt
  have na11 : ¬ w.heap.size = wa.heap.size := by omega
  have nb11 : ¬ wa.heap.size = w.heap.size := by omega
  have na12 : ¬ w.heap.size = wa.heap.size + 1 := by omega
  have nb12 : ¬ wa.heap.size + 1 = w.heap.size := by omega
  have na21 : ¬ w.heap.size + 1 = wa.heap.size := by omega
  have nb21 : ¬ wa.heap.size = w.heap.size + 1 := by omega
  have na22 : ¬ w.heap.size + 1 = wa.heap.size + 1 := by omega
  have nb22 : ¬ wa.heap.size + 1 = w.heap.size + 1 := by omega
  have X0 : Hid (Below wa.heap.size wa wa.drew) := (Below.refl _ _).drew
  have X1 : Hid (Below wa.heap.size wa (wa.alloc (.cells #[.slice none 0 0, .int .i64 0] 24)).drew) := (below1 wa _).drew
  have X2 : Hid (Below wa.heap.size wa ((wa.alloc (.cells #[.slice none 0 0, .int .i64 0] 24)).alloc (.cells #[.slice none 0 0, .int .i64 0] 24)).drew) := (below2 wa _ _).drew
  have Z1 : Hid (Has (wa.alloc (.cells #[.slice none 0 0, .int .i64 0] 24)).drew wa.heap.size (.cells #[.slice none 0 0, .int .i64 0] 24)) := Has.new wa _
  have Z20 : Hid (Has ((wa.alloc (.cells #[.slice none 0 0, .int .i64 0] 24)).alloc (.cells #[.slice none 0 0, .int .i64 0] 24)).drew wa.heap.size (.cells #[.slice none 0 0, .int .i64 0] 24)) := (Has.new wa _).alloc _
  have Z21 : Hid (Has ((wa.alloc (.cells #[.slice none 0 0, .int .i64 0] 24)).alloc (.cells #[.slice none 0 0, .int .i64 0] 24)).drew (wa.heap.size + 1) (.cells #[.slice none 0 0, .int .i64 0] 24)) := by
    have h := Has.new (wa.alloc (.cells #[.slice none 0 0, .int .i64 0] 24)) (.cells #[.slice none 0 0, .int .i64 0] 24)
    rw [World.size_alloc] at h
    exact h
  go_cut [5, 6] (fun s5 s6 wx => TwoLent wa wx s5 s6 bs cs N M)
  case first =>
    go_region_held3 (fun wx => wx.cell? ⟨w.heap.size, 0, none⟩ = some (.slice a len cap) ∧ wx.cell? ⟨w.heap.size, 1, none⟩ = some (.int .i64 N) ∧ wx.cell? ⟨w.heap.size + 1, 0, none⟩ = some (.slice a2 len2 cap2) ∧ wx.cell? ⟨w.heap.size + 1, 1, none⟩ = some (.int .i64 M)) (go_keep)
      (first | (go_at_call 11; (with_reducible refine (own_walk a len cap bs N _ (by first | exact SA.out.later X0.out | exact SA.out.later X1.out | exact SA.out.later X2.out) hlw).mono ?_); rintro e w5 ⟨g1, cap1, rfl, hg1, ht1, b5⟩; have B5 : Hid (Below wa.heap.size wa w5) := (by first | exact X0.out.trans (b5.mono X0.out.size) | exact X1.out.trans (b5.mono X1.out.size) | exact X2.out.trans (b5.mono X2.out.size)); (try (have y1 := Lib.hid (Z1.out.later b5))); (try (have y1 := Lib.hid (Z20.out.later b5); have y2 := Lib.hid (Z21.out.later b5))); (try (have ye := y1.out.lt; have yf : ¬ wa.heap.size = w5.heap.size := Nat.ne_of_lt ye; have yg : ¬ w5.heap.size = wa.heap.size := fun e => Nat.ne_of_lt ye e.symm)); have T5 := Lib.hid ht1; have hg1' : wa.heap.size ≤ g1 := (by have := hg1; simp at this; omega); have BN := B5; have q1 := (KB.out.later BN.out).two; have q2 := (KM.out.later BN.out).two; have e0 := q1.1; have e1 := q1.2.1; have e2 := q2.1; have e3 := q2.2.1; have u1 := (KB.out.later BN.out).lt; have u2 := (KM.out.later BN.out).lt; have nc11 : ¬ w.heap.size = w5.heap.size := Nat.ne_of_lt u1; have nd11 : ¬ w5.heap.size = w.heap.size := fun e => Nat.ne_of_lt u1 e.symm; have nc12 : ¬ w.heap.size = w5.heap.size + 1 := Nat.ne_of_lt (Nat.lt_succ_of_lt u1); have nd12 : ¬ w5.heap.size + 1 = w.heap.size := fun e => Nat.ne_of_lt (Nat.lt_succ_of_lt u1) e.symm; have nc21 : ¬ w.heap.size + 1 = w5.heap.size := Nat.ne_of_lt u2; have nd21 : ¬ w5.heap.size = w.heap.size + 1 := fun e => Nat.ne_of_lt u2 e.symm; have nc22 : ¬ w.heap.size + 1 = w5.heap.size + 1 := Nat.ne_of_lt (Nat.lt_succ_of_lt u2); have nd22 : ¬ w5.heap.size + 1 = w.heap.size + 1 := fun e => Nat.ne_of_lt (Nat.lt_succ_of_lt u2) e.symm; clear q1 q2; clear b5 ht1 BN) | (go_at_call 11; (with_reducible refine (own_walk a2 len2 cap2 cs M _ (by first | exact SM.out.later B5.out | exact (SM.out.later B5.out).later (below1 _ _) | exact (SM.out.later B5.out).later (below2 _ _ _)) hlw2).mono ?_); rintro e w6 ⟨g2, cap2', rfl, hg2, ht2, b6⟩; have B6 : Hid (Below wa.heap.size wa w6) := (by first | exact B5.out.trans (b6.mono B5.out.size) | exact (B5.out.trans ((below1 w5 _).mono B5.out.size)).trans (b6.mono (by have := B5.out.size; simp; omega)) | exact (B5.out.trans ((below2 w5 _ _).mono B5.out.size)).trans (b6.mono (by have := B5.out.size; simp; omega))); have T6 := Lib.hid ht2; (first | (have v1 := Lib.hid ((Has.new w5 (.cells #[.slice none 0 0, .int .i64 0] 24)).later b6)) | (have v1 := Lib.hid (((Has.new w5 (.cells #[.slice none 0 0, .int .i64 0] 24)).alloc (.cells #[.slice none 0 0, .int .i64 0] 24)).later b6); have v2 : Hid (Has w6 (w5.heap.size + 1) (.cells #[.slice none 0 0, .int .i64 0] 24)) := (by have h := (Has.new (w5.alloc (.cells #[.slice none 0 0, .int .i64 0] 24)) (.cells #[.slice none 0 0, .int .i64 0] 24)).later b6; rw [World.size_alloc] at h; exact h)) | skip); (first | (have yy1 := Lib.hid (y1.out.later b6)) | (have yy1 := Lib.hid ((y1.out.alloc _).later b6)) | skip); (first | (have yy2 := Lib.hid (y2.out.later b6)) | skip); (try (have q := v1.out.two; have v1a := q.1; have v1b := q.2.1; have v1c := q.2.2.1; have v1d := q.2.2.2; have v1e := v1.out.lt; have v1f : ¬ w5.heap.size = w6.heap.size := Nat.ne_of_lt v1e; have v1g : ¬ w6.heap.size = w5.heap.size := fun e => Nat.ne_of_lt v1e e.symm; clear q)); (try (have q := v2.out.two; have v2a := q.1; have v2b := q.2.1; have v2c := q.2.2.1; have v2d := q.2.2.2; have v2e := v2.out.lt; have v2f : ¬ w5.heap.size + 1 = w6.heap.size := Nat.ne_of_lt v2e; have v2g : ¬ w6.heap.size = w5.heap.size + 1 := fun e => Nat.ne_of_lt v2e e.symm; clear q)); (try (have q := yy1.out.two; have yy1a := q.1; have yy1b := q.2.1; have yy1c := q.2.2.1; have yy1d := q.2.2.2; have yy1e := yy1.out.lt; have yy1f : ¬ wa.heap.size = w6.heap.size := Nat.ne_of_lt yy1e; have yy1g : ¬ w6.heap.size = wa.heap.size := fun e => Nat.ne_of_lt yy1e e.symm; clear q)); (try (have q := yy2.out.two; have yy2a := q.1; have yy2b := q.2.1; have yy2c := q.2.2.1; have yy2d := q.2.2.2; have yy2e := yy2.out.lt; have yy2f : ¬ wa.heap.size + 1 = w6.heap.size := Nat.ne_of_lt yy2e; have yy2g : ¬ w6.heap.size = wa.heap.size + 1 := fun e => Nat.ne_of_lt yy2e e.symm; clear q));  have hg2' := hg2; have T56 : Hid (Lent w6 g1 bs.length cap1 bs) := (by first | exact T5.out.later b6 | exact (T5.out.alloc _).later b6 | exact ((T5.out.alloc _).alloc _).later b6); have BN := B6; have q1 := (KB.out.later BN.out).two; have q2 := (KM.out.later BN.out).two; have e0 := q1.1; have e1 := q1.2.1; have e2 := q2.1; have e3 := q2.2.1; have u1 := (KB.out.later BN.out).lt; have u2 := (KM.out.later BN.out).lt; clear q1 q2; clear ht2 BN))
    all_goals (go_wp2_with fail; go_meet)
    all_goals clear HJ HK HA HB
    all_goals (have zq1 := hg1; have zq2 := hg2'; have zq3 := T5.out.2.2.1; have zq4 := T6.out.2.2.1; have zq5 := B5.out.size; (try (have zq6 := y1.out.lt)); (try (have zq7 := y2.out.lt)); simp at zq1 zq2)
    all_goals (first
      | with_reducible exact two_aa T56.out T6.out B6.out
      | with_reducible exact (two_aa T6.out T56.out B6.out).swap
      | with_reducible exact two_sa v1.out T56.out T6.out B6.out (by omega) (by omega) (by omega)
      | with_reducible exact (two_sa v1.out T6.out T56.out B6.out (by omega) (by omega) (by omega)).swap
      | with_reducible exact two_sa yy1.out T56.out T6.out B6.out (by omega) (by omega) (by omega)
      | with_reducible exact (two_sa yy1.out T6.out T56.out B6.out (by omega) (by omega) (by omega)).swap
      | with_reducible exact two_ss v1.out v2.out (by omega) T56.out T6.out B6.out (by omega) (by omega) (by omega) (by omega) (by omega) (by omega)
      | with_reducible exact two_ss v2.out v1.out (by omega) T56.out T6.out B6.out (by omega) (by omega) (by omega) (by omega) (by omega) (by omega)
      | with_reducible exact two_ss v1.out yy1.out (by omega) T56.out T6.out B6.out (by omega) (by omega) (by omega) (by omega) (by omega) (by omega)
      | with_reducible exact two_ss yy1.out v1.out (by omega) T56.out T6.out B6.out (by omega) (by omega) (by omega) (by omega) (by omega) (by omega)
      | with_reducible exact two_ss yy1.out yy2.out (by omega) T56.out T6.out B6.out (by omega) (by omega) (by omega) (by omega) (by omega) (by omega)
      | with_reducible exact two_ss yy2.out yy1.out (by omega) T56.out T6.out B6.out (by omega) (by omega) (by omega) (by omega) (by omega) (by omega))
  case rest =>
    clear na11 nb11 na12 nb12 na21 nb21 na22 nb22 X0 X1 X2 Z1 Z20 Z21 c0 c1 d0 d1
    obtain ⟨p5, p6, g1, cap1, g2, cap2', rfl, rfl, V5, V6, T5, T6, B0⟩ := hcut
    have V5 : Has wc p5 (.cells #[.slice (some ⟨g1, 0, none⟩) bs.length cap1, .int .i64 N] 24) := V5
    have V6 : Has wc p6 (.cells #[.slice (some ⟨g2, 0, none⟩) cs.length cap2', .int .i64 M] 24) := V6
    obtain ⟨c0, c1, _, _⟩ := V5.two
    obtain ⟨d0, d1, _, _⟩ := V6.two
    have P5 := Lib.hid V5
    have P6 := Lib.hid V6
    have L5 := Lib.hid T5
    have L6 := Lib.hid T6
    have SA0 := Lib.hid (SA.out.later B0)
    have SM0 := Lib.hid (SM.out.later B0)
    have KB0 := Lib.hid (KB.out.later B0)
    have KM0 := Lib.hid (KM.out.later B0)
    have BC := Lib.hid (BA.out.trans (B0.mono BA.out.size))
    clear V5 V6 T5 T6 B0 SA SM KB KM BA hza hzb
    go_wp2_with fail
    refine (HJ.out _ _ _ L5.out.1 L6.out.1).mono ?_
    rintro e w2 ⟨x1, m1, k1, rfl, s1, f1, b1⟩
    have XX := Lib.hid (Has.new w2 (.cells #[.slice x1 m1 k1, .int .i64 jn] 24))
    have SX := Lib.hid (s1.later (below1 w2 (.cells #[.slice x1 m1 k1, .int .i64 jn] 24)))
    have FX := Lib.hid (f1.later (below1 w2 (.cells #[.slice x1 m1 k1, .int .i64 jn] 24)))
    have BX := Lib.hid (b1.trans ((below1 w2 (.cells #[.slice x1 m1 k1, .int .i64 jn] 24)).mono b1.size))
    clear c0 c1 d0 d1
    obtain ⟨c0, c1, _, _⟩ := (KB0.out.later b1).two
    obtain ⟨d0, d1, _, _⟩ := (KM0.out.later b1).two
    have hz1 := (KB0.out.later b1).lt
    have hz2 := (KM0.out.later b1).lt
    clear s1 f1 b1
    obtain ⟨wd, hwd⟩ : ∃ wd, wd = w2.alloc (.cells #[.slice x1 m1 k1, .int .i64 jn] 24) := ⟨_, rfl⟩
    rw [← hwd] at XX SX FX BX
    go_wp2_with fail
    rw [← hwd]
    clear hwd c0 c1 d0 d1 hz1 hz2
    refine (HK.out _ _ _ (SA0.out.later BX.out) (SM0.out.later BX.out)).mono ?_
    rintro e w3 ⟨y1, m2, k2, rfl, s2, b2⟩
    have XY := Lib.hid (Has.new w3 (.cells #[.slice y1 m2 k2, .int .i64 jn] 24))
    have SY := Lib.hid (s2.later (below1 w3 (.cells #[.slice y1 m2 k2, .int .i64 jn] 24)))
    have BY := Lib.hid (b2.trans ((below1 w3 (.cells #[.slice y1 m2 k2, .int .i64 jn] 24)).mono b2.size))
    obtain ⟨c0, c1, _, _⟩ := ((P5.out.later BX.out).later b2).two
    have hz1 := ((P5.out.later BX.out).later b2).lt
    clear s2 b2
    obtain ⟨we, hwe⟩ : ∃ we, we = w3.alloc (.cells #[.slice y1 m2 k2, .int .i64 jn] 24) := ⟨_, rfl⟩
    rw [← hwe] at XY SY BY
    go_wp2_with fail
    rw [← hwe]
    clear hwe c0 c1 hz1
    have BY1 := Lib.hid (BX.out.trans (BY.out.mono BX.out.size))
    refine (HA.out _ _ (L5.out.later BY1.out).1).mono ?_
    rintro e w4 ⟨x3, m3, k3, rfl, s3, f3, b3⟩
    have XS := Lib.hid (Has.new w4 (.cells #[.slice x3 m3 k3, .int .i64 an] 24))
    have SS := Lib.hid (s3.later (below1 w4 (.cells #[.slice x3 m3 k3, .int .i64 an] 24)))
    have FS := Lib.hid (f3.later (below1 w4 (.cells #[.slice x3 m3 k3, .int .i64 an] 24)))
    have BS := Lib.hid (b3.trans ((below1 w4 (.cells #[.slice x3 m3 k3, .int .i64 an] 24)).mono b3.size))
    obtain ⟨c0, c1, _, _⟩ := ((KB0.out.later BY1.out).later b3).two
    have hz1 := ((KB0.out.later BY1.out).later b3).lt
    have hb3 := Lib.hid b3.size
    clear s3 f3 b3
    obtain ⟨wf, hwf⟩ : ∃ wf, wf = w4.alloc (.cells #[.slice x3 m3 k3, .int .i64 an] 24) := ⟨_, rfl⟩
    rw [← hwf] at XS SS FS BS
    go_wp2_with fail
    rw [← hwf]
    clear hwf c0 c1 hz1
    have BS1 := Lib.hid (BY1.out.trans (BS.out.mono BY1.out.size))
    refine (HB.out _ _ (SA0.out.later BS1.out)).mono ?_
    rintro e w5 ⟨y4, m4, k4, rfl, s4, b4⟩
    have XT := Lib.hid (Has.new w5 (.cells #[.slice y4 m4 k4, .int .i64 an] 24))
    have ST := Lib.hid (s4.later (below1 w5 (.cells #[.slice y4 m4 k4, .int .i64 an] 24)))
    have BT := Lib.hid (b4.trans ((below1 w5 (.cells #[.slice y4 m4 k4, .int .i64 an] 24)).mono b4.size))
    clear s4 b4
    obtain ⟨wg, hwg⟩ : ∃ wg, wg = w5.alloc (.cells #[.slice y4 m4 k4, .int .i64 an] 24) := ⟨_, rfl⟩
    rw [← hwg] at XT ST BT
    have BT1 := Lib.hid (BS1.out.trans (BT.out.mono BS1.out.size))
    have CS := Lib.hid (BS.out.trans (BT.out.mono BS.out.size))
    have CY := Lib.hid (BY.out.trans (CS.out.mono BY.out.size))
    have XX4 := Lib.hid (XX.out.later CY.out)
    have XY4 := Lib.hid (XY.out.later CS.out)
    have XS4 := Lib.hid (XS.out.later BT.out)
    have SX4 := Lib.hid (SX.out.later CY.out)
    have SY4 := Lib.hid (SY.out.later CS.out)
    have SS4 := Lib.hid (SS.out.later BT.out)
    have FX4 := Lib.hid (FX.out.later CY.out)
    have FS4 := Lib.hid (FS.out.later BT.out)
    obtain ⟨c0, c1, _, _⟩ := XX4.out.two
    obtain ⟨d0, d1, _, _⟩ := XY4.out.two
    go_upto_region 6 with fail
    rw [← hwg]
    clear hwg
    go_wp2_with fail
    refine (same_is _ _ jn jn js _ SX4.out SY4.out rfl).mono ?_
    rintro e w7 ⟨rfl, b5⟩
    clear c0 c1 d0 d1
    obtain ⟨c0, c1, _, _⟩ := (XS4.out.later b5).two
    obtain ⟨d0, d1, _, _⟩ := (XT.out.later b5).two
    have B5 := Lib.hid b5
    clear b5
    go_wp2_with fail
    refine (same_is _ _ an an zs _ (SS4.out.later B5.out) (ST.out.later B5.out) rfl).mono ?_
    rintro e w8 ⟨rfl, b6⟩
    have B6 := Lib.hid (B5.out.trans (b6.mono B5.out.size))
    clear b6 c0 c1 d0 d1
    obtain ⟨c0, c1, _, _⟩ := (XX4.out.later B6.out).two
    go_wp2_with fail
    refine (spoil_any2 x1 m1 k1 js jn wc.heap.size _ (FX4.out.later B6.out) (SX4.out.len.2.1) (by have := BT1.out.size; have := B6.out.size; omega)).mono ?_
    rintro e w9 ⟨rfl, b9, o9⟩
    have FS9 := Lib.hid ((FS4.out.later B6.out).kept FX.out BY.out.size o9)
    have XS9 := (Fresh.box (XS4.out.later B6.out) FX.out (by have := hb3.out; have := BY.out.size; omega) o9).two
    obtain ⟨c0, c1, _, _⟩ := XS9
    have A9 := Lib.hid ((BT1.out.trans (B6.out.mono BT1.out.size)).trans b9)
    have hs9 := Lib.hid b9.size
    clear b9 o9
    go_wp2_with fail
    refine (spoil_any2 x3 m3 k3 zs an we.heap.size _ FS9.out (SS4.out.len.2.1) (by have := CS.out.size; have := B6.out.size; have := hs9.out; omega)).mono ?_
    rintro e w10 ⟨rfl, b10, _⟩
    have A10 := Lib.hid (A9.out.trans (b10.mono (by have := BY1.out.size; omega)))
    clear b10 c0 c1
    obtain ⟨c0, c1, _, _⟩ := (P5.out.later A10.out).two
    obtain ⟨d0, d1, _, _⟩ := (KB0.out.later A10.out).two
    go_wp2_with fail
    refine (kept_any g1 bs.length cap1 a len cap bs N _ (L5.out.later A10.out) (SA0.out.later A10.out) HL (by omega)).mono ?_
    rintro e w11 ⟨rfl, b11⟩
    have A11 := Lib.hid (A10.out.trans (b11.mono A10.out.size))
    clear b11 c0 c1 d0 d1
    obtain ⟨c0, c1, _, _⟩ := (P6.out.later A11.out).two
    obtain ⟨d0, d1, _, _⟩ := (KM0.out.later A11.out).two
    go_wp2_with fail
    refine (kept_any g2 cs.length cap2' a2 len2 cap2 cs M _ (L6.out.later A11.out) (SM0.out.later A11.out) HL2 (by omega)).mono ?_
    rintro e w12 ⟨rfl, b12⟩
    have A12 := Lib.hid (A11.out.trans (b12.mono A11.out.size))
    clear b12 c0 c1 d0 d1
    go_wp2_with fail
    refine (lives_any _).mono ?_
    rintro e w13 ⟨rfl, b13⟩
    have A13 := Lib.hid (A12.out.trans (b13.mono A12.out.size))
    clear b13
    go_wp2
    go_ret
    exact ⟨rfl, BC.out.trans (A13.out.mono BC.out.size)⟩

set_option maxRecDepth 100000 in
theorem bitsJoins_contract (H : Type) (enc : TypeId × Value → H) (W : World) (base : Nat) (args : Array Value) (ds gs : List (DataW H)) (before : List MemPlace)
    (hval0 : ∀ (j : Nat) t v, Try.f6.params[j]? = some t → args[j]? = some v → Value.okWide Try.prog W .any base t v)
    (hW : DataW.Whole enc Try.prog Try.f6.params.toList Rows.bitsJoinsSpec.vars false W args.toList ds gs before) (hk0 : Rows.uptoSmall H (ds ++ gs) = true)
    (hsz0 : (DataW.weightsEach Try.prog (Try.f6.params.toList ++ Rows.bitsJoinsSpec.plain.varTypes Try.prog) (ds ++ gs)).all (· ≤ reachBytes) = true) :
    Calls Try.prog 6 args W fun e W' => ∃ v, e = .returned v ∧ Rows.bitsJoinsSpec.post enc Try.prog Try.f6 false true false false W args v W' := by
  have hk : Rows.uptoBulkAll (ds ++ gs) ≤ 1048576 := of_decide_eq_true hk0
  have hval : ∀ (j : Nat) t v, Try.f6.params[j]? = some t → args[j]? = some v → Value.okWide Try.prog W .any base t v := hval0
  have hsz : (DataW.weightsEach Try.prog (Try.f6.params.toList ++ Rows.bitsJoinsSpec.plain.varTypes Try.prog) (ds ++ gs)).all (· ≤ reachBytes) = true := hsz0
  have hW' := hW
  obtain ⟨p, q, hA0, hV, rfl, hfz, hnd⟩ := hW
  have hA : DataW.TrodAll enc Try.prog W 0 (fun _ => true) true Try.f6.params.toList args.toList ds p := hA0
  rw [Try.params6] at hA hval hsz
  obtain ⟨v0, vs0, d0, ds0, p0, q0, hargs, rfl, rfl, h0, r0⟩ := trodAll_cons hA
  obtain ⟨v1, vs1, d1, ds1, p1, q1, rfl, rfl, rfl, h1, r1⟩ := trodAll_cons r0
  obtain ⟨rfl, rfl, rfl⟩ := trodAll_nil r1
  obtain rfl : args = #[v0, v1] := by cases args; simp_all
  obtain ⟨rfl, rfl⟩ := trodVars_none hV
  have k0 := h0
  have lt0 : ∀ x ∈ p0, x.block < W.heap.size := by obtain ⟨m, hm⟩ := k0; exact DataW.trod_lt m _ _ _ hm
  have w0 : ∀ n ∈ d0.weights Try.prog 24, n ≤ reachBytes := fun n hn => by simpa using List.all_eq_true.1 hsz n (DataW.weights_mem_each (j := 0) rfl rfl n hn)
  obtain ⟨s0, bs0, n0, rfl, sl0, _, bk0, lo0, hi0⟩ := bits_open_bulk (hval 0 24 v0 rfl rfl) h0 w0
  have k1 := h1
  have lt1 : ∀ x ∈ p1, x.block < W.heap.size := by obtain ⟨m, hm⟩ := k1; exact DataW.trod_lt m _ _ _ hm
  have w1 : ∀ n ∈ d1.weights Try.prog 24, n ≤ reachBytes := fun n hn => by simpa using List.all_eq_true.1 hsz n (DataW.weights_mem_each (j := 1) rfl rfl n hn)
  obtain ⟨s1, bs1, n1, rfl, sl1, _, bk1, lo1, hi1⟩ := bits_open_bulk (hval 1 24 v1 rfl rfl) h1 w1
  simp only [List.cons_append, List.nil_append, Rows.uptoBulkAll] at hk
  have ln0 : bs0.length ≤ 1048576 := by omega
  have ln1 : bs1.length ≤ 1048576 := by omega
  clear hA0 hval0 hsz0
  refine (bitsJoins_walk s0 bs0 n0 s1 bs1 n1 W sl0 ln0 lo0 hi0 sl1 ln1 lo1 hi1).mono fun e W' ⟨he, bel⟩ => ?_
  subst he
  exact ⟨_, rfl, _, _, _, [], _, [], hW', trodAll_mk1 (shut_bool Try.underlying4 _), (trodAll_cons_mk (Below.trod Try.laidOut (by kernel_rfl) (of_decide_eq_true (by kernel_rfl)) k0 bel lt0) (trodAll_cons_mk (Below.trod Try.laidOut (by kernel_rfl) (of_decide_eq_true (by kernel_rfl)) k1 bel lt1) trodAll_mk0)), rfl, bel.frame _, fun h => by cases h⟩

set_option maxRecDepth 100000 in
theorem bitsJoins_lifted (os : Os) (started : os.Started) (H : Type) (enc : TypeId × Value → H) (F : Stop.Interp) :
    ReturnsInHanded {} Try.checked os 6 .any ((Rows.OpenSpec.upto Rows.bitsJoinsSpec).pre6 enc Try.prog Try.f6 Rows.bitsJoinsUptoRow.domain false) (((Rows.OpenSpec.upto Rows.bitsJoinsSpec).at F).post enc Try.prog Try.f6 false true false false) := by
  refine returnsInHanded_of_cond_sized (C := Try.checked) (s := Rows.OpenSpec.upto Rows.bitsJoinsSpec) (k := Rows.uptoSmall) rfl Try.own started (by kernel_rfl) Try.func6
    (OpenSpec.witness (enc := enc) (C := Try.checked) (s := Rows.OpenSpec.upto Rows.bitsJoinsSpec) (k := Rows.uptoSmall) rfl false ⟨#[], #[.agg #[.slice none 0 0, .int .i64 0], .agg #[.slice none 0 0, .int .i64 0]], []⟩ 8 (by kernel_rfl) (by kernel_rfl) (by kernel_rfl)
      (x := ([.agg [.nil, .lit (.int .i64 0)], .agg [.nil, .lit (.int .i64 0)]], [], [])) (by kernel_rfl) rfl (by kernel_rfl)) ?_
  intro W base args ds gs before hval hW _ hk hsz _
  exact bitsJoins_contract H enc W base args ds gs before hval hW hk hsz

theorem bitsJoins_proved : Rows.BitsJoinsUptoSaid :=
  OpenClaim.holds_of_cond 6 Try.f6 rfl rfl rfl rfl rfl rfl rfl ⟨rfl, rfl, rfl, rfl, rfl⟩ rfl rfl rfl rfl rfl (by kernel_rfl) Try.func6 (by kernel_rfl)
    (of_decide_eq_true (by kernel_rfl)) (by unfold Func.isWrapper; rw [if_neg (of_decide_eq_false (by kernel_rfl))]; exact ⟨rfl, rfl⟩)
    (fun os started H enc _ F => bitsJoins_lifted os started H enc F)
end Go.Proofs.Ytcehdngdkfoioaa
