/- The document's reader of streams in memory: what it holds, what of all else stays. -/
import Derived.Test.YtnjlljdbghcobaaGreatDoorIst
import Derived.Test.YtnjlljdbghcobaaGreatDoorCapp
import Derived.Test.YtnjlljdbghcobaaGreatDoorHrcodes
import Derived.Test.YtnjlljdbghcobaaGreatDoorKrread3
import Derived.Test.YtnjlljdbghcobaaGreatDoorItake2
import Derived.Maps.AppendAt

namespace Go.Proofs.YtnjlljdbghcobaaGreatDoor
set_option maxRecDepth 100000
open Go.RowKit

def jdi (s : Value) (N p most : Nat) (ov : Value) : Obj := .cells #[s, .int .i64 (N : Int), .int .i64 (p : Int), ov, .int .i64 (most : Int)] 70 (0, 0)

/-- The document's reader lies at R, over the row l, at the place p, with the bytes out told. -/
structure Ds (K : Nat → Prop) (R : Nat) (s : Value) (l : List Bool) (N most : Nat) (w : World) (p : Nat) (out : List Nat) : Prop where
  lt : ∀ k, K k → k < w.heap.size
  ne : ¬ K R
  sl : Sl w s (Bs.pack l)
  slK : ∀ a len cap b off, s = .slice a len cap → 0 < len → a = some ⟨b, off, none⟩ → K b
  pn : p ≤ N
  le : out.length ≤ most
  b8 : ∀ x ∈ out, x < 256
  has : ∃ ov, Has w R (jdi s N p most ov) ∧ w.ownsRow 0 5 1 ov out.length (vb out) ∧ (∀ g, ov.ownBlock = some g → ¬ K g)

theorem jdi_cells {w : World} {R : Nat} {s ov : Value} {N p most : Nat} (h : Has w R (jdi s N p most ov)) :
    w.cell? ⟨R, 0, none⟩ = some s ∧ w.cell? ⟨R, 1, none⟩ = some (.int .i64 (N : Int)) ∧ w.cell? ⟨R, 2, none⟩ = some (.int .i64 (p : Int)) ∧ w.cell? ⟨R, 3, none⟩ = some ov ∧ w.cell? ⟨R, 4, none⟩ = some (.int .i64 (most : Int)) := by
  unfold jdi at h
  exact ⟨by rw [h.cell]; rfl, by rw [h.cell]; rfl, by rw [h.cell]; rfl, by rw [h.cell]; rfl, by rw [h.cell]; rfl⟩
theorem jdi_free {w : World} {R : Nat} {s ov : Value} {N p most : Nat} (h : Has w R (jdi s N p most ov)) (i : Nat) : w.frozen? ⟨R, i, none⟩ = false := by unfold jdi at h; exact h.free i

/-- The bytes' block is not the reader's. -/
theorem ov_ne {w : World} {R : Nat} {s ov : Value} {N p most n : Nat} {xs : List Value} (h : Has w R (jdi s N p most ov)) (ho : w.ownsRow 0 5 1 ov n xs) : ∀ g, ov.ownBlock = some g → g ≠ R := by
  intro g hg
  rcases ho.2 with ⟨rfl, _⟩ | ⟨g', cap, cur, rfl, _, hh, _⟩
  · simp [Value.ownBlock] at hg
  · simp [Value.ownBlock] at hg
    subst hg
    rintro rfl
    unfold jdi at h
    have e : some (Obj.cells cur 5 (0, 0)) = some _ := Eq.trans (Eq.symm hh) h
    simp only [Option.some.injEq, Obj.cells.injEq] at e
    exact absurd e.2.1 (by decide)
theorem ob_set {w : World} {R i : Nat} {x : Value} {ov : Value} {n : Nat} {xs : List Value} (ho : w.ownsRow 0 5 1 ov n xs) (hne : ∀ g, ov.ownBlock = some g → g ≠ R) : (w.setCell ⟨R, i, none⟩ x).ownsRow 0 5 1 ov n xs := by
  refine ho.kept (row := some R) ⟨rfl, rfl, rfl, by simp, fun k hk hr => ?_⟩ ?_
  · exact Below.heap_setCell w ⟨R, i, none⟩ x k (by simpa using hr)
  · cases hv : ov.ownBlock with
    | none => exact Or.inl rfl
    | some g => exact Or.inr (fun e => hne g hv (by simpa using e))

/-- Memory of its own more: the reader is as it was. -/
theorem Ds.later {K : Nat → Prop} {R : Nat} {s : Value} {l : List Bool} {N most : Nat} {w w' : World} {p : Nat} {out : List Nat} (h : Ds K R s l N most w p out) (hb : Below w.heap.size w w') : Ds K R s l N most w' p out := by
  obtain ⟨ov, h1, h2, h3⟩ := h.has
  exact ⟨fun k hk => Nat.lt_of_lt_of_le (h.lt k hk) hb.size, h.ne, h.sl.later hb, h.slK, h.pn, h.le, h.b8, ov, h1.later hb, own_keep h2 hb, h3⟩

/-- The same at another place. -/
theorem Ds.at {K : Nat → Prop} {R : Nat} {s : Value} {l : List Bool} {N most : Nat} {w : World} {p : Nat} {out : List Nat} (h : Ds K R s l N most w p out) (q : Nat) (hq : q ≤ N) : Ds K R s l N most (w.setCell ⟨R, 2, none⟩ (.int .i64 (q : Int))) q out := by
  have hf : Fr K w (w.setCell ⟨R, 2, none⟩ (.int .i64 (q : Int))) := Fr.of_only h.lt h.ne (only_set w R 2 _)
  obtain ⟨ov, h1, h2, h3⟩ := h.has
  refine ⟨fun k hk => by simpa using h.lt k hk, h.ne, sl_keep h.sl h.slK hf, h.slK, hq, h.le, h.b8, ov, ?_, ob_set h2 (ov_ne h1 h2), h3⟩
  unfold jdi at h1 ⊢
  have := h1.setSelf (i := 2) (.int .i64 (q : Int))
  simpa using this
theorem Ds.at_fr {K : Nat → Prop} {R : Nat} {s : Value} {l : List Bool} {N most : Nat} {w : World} {p : Nat} {out : List Nat} (h : Ds K R s l N most w p out) (q : Nat) : Fr K w (w.setCell ⟨R, 2, none⟩ (.int .i64 (q : Int))) := Fr.of_only h.lt h.ne (only_set w R 2 _)

/-- .. and where more is kept that lies apart. -/
theorem Ds.narrow {K K' : Nat → Prop} {R : Nat} {s : Value} {l : List Bool} {N most : Nat} {w w0 : World} {p p0 : Nat} {out out0 : List Nat} (h : Ds K' R s l N most w p out) (h0 : Ds K R s l N most w0 p0 out0) (hK : ∀ k, K k → K' k) : Ds K R s l N most w p out := by
  obtain ⟨ov, h1, h2, h3⟩ := h.has
  exact ⟨fun k hk => h.lt k (hK k hk), h0.ne, h.sl, h0.slK, h.pn, h.le, h.b8, ov, h1, h2, fun g hg hk => h3 g hg (hK g hk)⟩
theorem Ds.widen {K : Nat → Prop} {R : Nat} {s : Value} {l : List Bool} {N most : Nat} {w w' : World} {p : Nat} {out : List Nat} (h : Ds K R s l N most w p out) (hb : Below w.heap.size w w') : Ds (fun k => K k ∨ (w.heap.size ≤ k ∧ k < w'.heap.size)) R s l N most w' p out := by
  obtain ⟨ov, h1, h2, h3⟩ := h.has
  refine ⟨fun k hk => ?_, fun hk => ?_, h.sl.later hb, fun a len cap b off e h0 e2 => Or.inl (h.slK a len cap b off e h0 e2), h.pn, h.le, h.b8, ov, h1.later hb, own_keep h2 hb, fun g hg hk => ?_⟩
  · rcases hk with hk | hk
    · exact Nat.lt_of_lt_of_le (h.lt k hk) hb.size
    · exact hk.2
  · rcases hk with hk | hk
    · exact h.ne hk
    · have := h1.lt; omega
  · rcases hk with hk | hk
    · exact h3 g hg hk
    · have := (World.ownsRow.lt h2 g hg).2; omega

/-- What a call of the document's reader leaves: c = 0, the value ev and what S says; or the value bad. -/
def Jo (K : Nat → Prop) (w : World) (c : Int) (ev bad : Value) (S : World → Prop) (e : Ending) (w' : World) : Prop := Fr K w w' ∧ (c = 0 → e = .returned ev ∧ S w') ∧ (c ≠ 0 → e = .returned bad)
theorem Jo.ok {K : Nat → Prop} {w w' : World} {v b : Value} {S : World → Prop} {e : Ending} (h : Jo K w 0 v b S e w') : e = .returned v ∧ S w' ∧ Fr K w w' := ⟨(h.2.1 rfl).1, (h.2.1 rfl).2, h.1⟩
theorem Jo.bad {K : Nat → Prop} {w w' : World} {c : Int} {v b : Value} {S : World → Prop} {e : Ending} (h : Jo K w c v b S e w') (hc : c ≠ 0) : e = .returned b ∧ Fr K w w' := ⟨h.2.2 hc, h.1⟩
theorem Jo.intro {K : Nat → Prop} {w w' : World} {v b : Value} {S : World → Prop} (hf : Fr K w w') (hs : S w') : Jo K w 0 v b S (.returned v) w' := ⟨hf, fun _ => ⟨rfl, hs⟩, fun h => absurd rfl h⟩
theorem Jo.fault {K : Nat → Prop} {w w' : World} {c : Int} {v b : Value} {S : World → Prop} (hc : c ≠ 0) (hf : Fr K w w') : Jo K w c v b S (.returned b) w' := ⟨hf, fun h => absurd h hc, fun _ => rfl⟩

theorem keep_jdi {w W w1 : World} {R : Nat} {s ov : Value} {N p most : Nat} (hx : Has w R (jdi s N p most ov)) (hb : Below w.heap.size w W) (hb1 : Below W.heap.size W w1) :
    w1.cell? ⟨R, 0, none⟩ = some s ∧ w1.cell? ⟨R, 1, none⟩ = some (.int .i64 (N : Int)) ∧ w1.cell? ⟨R, 2, none⟩ = some (.int .i64 (p : Int)) ∧ Below w.heap.size w w1 := by
  have h := hb.trans (hb1.mono hb.size)
  obtain ⟨c0, c1, c2, _⟩ := jdi_cells (hx.later h)
  exact ⟨c0, c1, c2, h⟩

/-- Numbers in blocks that are kept. -/
structure Zk (K : Nat → Prop) (w : World) (v : Value) (ls : List Nat) : Prop where
  zl : Zl w v (Hd.zz ls)
  kept : ∀ a len cap b off, v = .slice a len cap → 0 < len → a = some ⟨b, off, none⟩ → K b
  fit : (∀ x ∈ ls, x = 0) ∨ Fit (Hd.zz ls)
theorem Zk.fr {K : Nat → Prop} {w w' : World} {v : Value} {ls : List Nat} (h : Zk K w v ls) (hf : Fr K w w') : Zk K w' v ls := by
  refine ⟨?_, h.kept, h.fit⟩
  obtain ⟨a, len, cap, rfl, h1, h2, h3, h4⟩ := h.zl
  refine ⟨a, len, cap, rfl, h1, h2, h3, fun hl => ?_⟩
  obtain ⟨b, off, rfl, hlt, hc⟩ := h4 hl
  refine ⟨b, off, rfl, Nat.lt_of_lt_of_le hlt hf.size, fun i hi => ?_⟩
  rw [cell_of_heap (hf.block b (h.kept _ _ _ _ _ rfl hl rfl))]
  exact hc i hi

/-- append of bytes onto what the reader has told: its run. -/
theorem run_app_out {w : World} {v : Value} {out ys : List Nat} (ty : TypeId) (hown : w.ownsRow 0 5 1 v out.length (vb out)) (sp : Option Addr) (m c : Nat) (hy : Sl w (.slice sp m c) ys) (hn : out.length + ys.length ≤ 100000) :
    ∃ v' w', (Builtin.append_ #[22, 22] ty #[v, .slice sp m c]).run Tryz.prog w = .ok v' w' ∧ w'.ownsRow 0 5 1 v' (out ++ ys).length (vb (out ++ ys)) ∧ w.grownBy w' v.ownBlock ∧ (v'.ownBlock = v.ownBlock ∨ v'.ownBlock = some w.heap.size) := by
  obtain ⟨i0, hi, hz0, hz1, hz2⟩ := info_parts Tryz.infoU8
  obtain ⟨hl, hle, hnil⟩ := hy.len
  cases sp with
  | none =>
    obtain ⟨rfl, rfl⟩ := hnil rfl
    obtain rfl : ys = [] := List.eq_nil_of_length_eq_zero (by omega)
    refine ⟨v, w, run_append_owned_none w 0 22 ty 5 i0 1 Tryz.underlying22 hi v out.length (vb out) hown, by simpa using hown, ⟨rfl, rfl, rfl, Nat.le_refl _, fun _ _ _ => rfl⟩, Or.inl rfl⟩
  | some ad =>
    have hc' : ∀ j u, (vb ys)[j]? = some u → w.cell? (ad.add j) = some u := by
      intro j u hj
      have hlt : j < (vb ys).length := (List.getElem?_eq_some_iff.1 hj).1
      rw [vb_length] at hlt
      obtain ⟨ad', he, h⟩ := hy.cells (by omega)
      injection he with he
      subst he
      exact h j u hj
    obtain ⟨v', w', h1, h2, h3, _, h5⟩ := run_append_own_at (P := Tryz.prog) (w := w) 0 22 ty 5 i0 (.int .u8 0) 1 1 Tryz.underlying22 hi hz0 hz1 hz2 rfl (by decide) v out.length (vb out) hown ad m c (vb ys) (by rw [vb_length]; omega) hc' (oneCell_vb ys) (by unfold maxLen; omega) (by omega) (Nat.zero_le _)
    refine ⟨v', w', h1, ?_, h3, h5⟩
    rw [vb_append, List.length_append, ← hl]
    exact h2

/-- The reader behind an append onto what it has told. -/
theorem Ds.app {K : Nat → Prop} {R : Nat} {s : Value} {l : List Bool} {N most : Nat} {W : World} {p : Nat} {out : List Nat} (hS : Ds K R s l N most W p out) (ys : List Nat) (hle : (out ++ ys).length ≤ most) (h8 : ∀ x ∈ ys, x < 256) (ov : Value)
    (hx : Has W R (jdi s N p most ov)) (ho : W.ownsRow 0 5 1 ov out.length (vb out)) (hnk : ∀ g, ov.ownBlock = some g → ¬ K g) {w' : World} {v' : Value}
    (hown : w'.ownsRow 0 5 1 v' (out ++ ys).length (vb (out ++ ys))) (hg : W.grownBy w' ov.ownBlock) (hb : v'.ownBlock = ov.ownBlock ∨ v'.ownBlock = some W.heap.size) :
    Ds K R s l N most (w'.setCell ⟨R, 3, none⟩ v') p (out ++ ys) ∧ Fr K W (w'.setCell ⟨R, 3, none⟩ v') := by
  have hws := hg.size
  have F1 : Fr K W w' := ⟨hg.os, hg.tape, hg.output, hws, fun k hk => hg.block k (hS.lt k hk) (fun e => hnk k e.symm hk)⟩
  have hlt' : ∀ k, K k → k < w'.heap.size := fun k hk => Nat.lt_of_lt_of_le (hS.lt k hk) hws
  have hf := F1.trans (Fr.of_only hlt' hS.ne (only_set w' R 3 v'))
  have hRl := hx.lt
  have hxw : Has w' R (jdi s N p most ov) := (hg.block R hRl (fun e => ov_ne hx ho R e.symm rfl)).trans hx
  have hne : ∀ g, v'.ownBlock = some g → g ≠ R := by
    intro g hgb
    rcases hb with h | h
    · exact ov_ne hx ho g (h ▸ hgb)
    · rw [h] at hgb
      injection hgb with hgb
      omega
  refine ⟨⟨fun k hk => by simpa using hlt' k hk, hS.ne, sl_keep hS.sl hS.slK hf, hS.slK, hS.pn, hle, fun x hx => ?_, v', ?_, ob_set hown hne, ?_⟩, hf⟩
  · rcases List.mem_append.1 hx with h | h
    · exact hS.b8 x h
    · exact h8 x h
  · have h := hxw.setSelf (i := 3) v'
    unfold jdi at h ⊢
    simpa using h
  · intro g hgb
    rcases hb with h | h
    · exact hnk g (h ▸ hgb)
    · rw [h] at hgb
      injection hgb with hgb
      intro hk
      have := hS.lt g hk
      omega
end Go.Proofs.YtnjlljdbghcobaaGreatDoor

/- Contracts of the document's reader: get, symbol, None. -/
namespace Go.Proofs.YtnjlljdbghcobaaGreatDoor
set_option maxRecDepth 100000
open Go.RowKit

set_option maxRecDepth 100000 in
set_option maxHeartbeats 2000000 in
theorem jget_ok {K : Nat → Prop} {R : Nat} {s : Value} {l : List Bool} {N most : Nat} {w : World} {p : Nat} {out : List Nat} (n : Nat) (hS : Ds K R s l N most w p out) (hl : Hid (N = l.length)) (hN : N ≤ 2251799813685248) (hn : n ≤ 32) (hp : p + n ≤ N) (b : Value) :
    Calls Tryz.prog 75 #[.pointer (some ⟨R, 0, none⟩), .int .i64 (n : Int)] w (Jo K w 0 (.tuple #[.int .i64 (Hd.num l p n : Int), .int .i64 0]) b (fun w' => Ds K R s l N most w' (p + n) out)) := by
  obtain ⟨ov, hx, _, _⟩ := hS.has
  obtain ⟨c0, c1, c2, _⟩ := jdi_cells hx
  have HX := Lib.hid hx
  have HS := Lib.hid hS
  have B0 := Lib.hid (Below.refl w.heap.size w)
  obtain ⟨q, hq⟩ : ∃ q, q = p + n := ⟨_, rfl⟩
  have hsum : IntKind.i64.wrap ((p : Int) + (n : Int)) = (q : Int) := by rw [IntWalk.i64_in _ (by omega), hq]; norm_cast
  have HQ := Lib.hid hsum
  have hqN : q ≤ N := by omega
  obtain ⟨x, hxx⟩ : ∃ x : Nat, x = Hd.num l p n := ⟨_, rfl⟩
  have HG := Lib.hid (fun w' (hb : Below w.heap.size w w') => rget_ok s l N p n w' (hS.sl.later hb) hl hN hn hp)
  have hxx' : Bs.num ((l.drop p).take n) = x := by rw [hxx]; rfl
  rw [hxx'] at HG
  rw [← hxx, ← hq]
  clear hx hS hq hsum hxx hxx'
  go_enter Tryz.func75, Tryz.ntmps75
  go_wp2
  go_region_held3 (fun wx => wx.cell? ⟨R, 0, none⟩ = some s ∧ wx.cell? ⟨R, 1, none⟩ = some (.int .i64 (N : Int)) ∧ wx.cell? ⟨R, 2, none⟩ = some (.int .i64 (p : Int)) ∧ Below w.heap.size w wx) (first | exact ⟨c0, c1, c2, B0.out.drew⟩ | exact keep_jdi HX.out B0.out.drew hb1)
    (first | (go_at_call 120; refine (HG.out _ B0.out.drew).mono ?_; rintro e w1 ⟨rfl, hb1⟩))
  all_goals
    have hb : Below w.heap.size w w1 := B0.out.drew.trans (hb1.mono (by simp))
    have hx1 := HX.out.later hb
    obtain ⟨d0, d1, d2, _⟩ := jdi_cells hx1
    have y2 := jdi_free hx1 2
    have HB := Lib.hid hb
    have hsum := HQ.out
    clear hb1 hb hx1 c0 c1 c2
    go_wp2
    go_ret2
    have hS1 := HS.out.later HB.out
    exact Jo.intro ((Fr.of_below HS.out.lt HB.out).trans (hS1.at_fr q)) (hS1.at q hqN)

set_option maxRecDepth 100000 in
set_option maxHeartbeats 2000000 in
theorem jget_short {K : Nat → Prop} {R : Nat} {s : Value} {l : List Bool} {N most : Nat} {w : World} {p : Nat} {out : List Nat} (n : Nat) (hS : Ds K R s l N most w p out) (hl : Hid (N = l.length)) (hN : N ≤ 2251799813685248) (hn : n ≤ 32) (hsh : N < p + n) (v : Value) (S : World → Prop) :
    Calls Tryz.prog 75 #[.pointer (some ⟨R, 0, none⟩), .int .i64 (n : Int)] w (Jo K w 4 v (.tuple #[.int .i64 0, .int .i64 4]) S) := by
  obtain ⟨ov, hx, _, _⟩ := hS.has
  have hp := hS.pn
  obtain ⟨c0, c1, c2, _⟩ := jdi_cells hx
  have HX := Lib.hid hx
  have HS := Lib.hid hS
  have B0 := Lib.hid (Below.refl w.heap.size w)
  have HG := Lib.hid (fun w' (hb : Below w.heap.size w w') => rget_short s (Bs.pack l) N p n w' (hS.sl.later hb) (by omega) (by rw [hl.out]; exact Bs.pack_right l) hn hp (by omega))
  clear hx hS
  go_enter Tryz.func75, Tryz.ntmps75
  go_wp2
  go_region_held3 (fun wx => wx.cell? ⟨R, 0, none⟩ = some s ∧ wx.cell? ⟨R, 1, none⟩ = some (.int .i64 (N : Int)) ∧ wx.cell? ⟨R, 2, none⟩ = some (.int .i64 (p : Int)) ∧ Below w.heap.size w wx) (first | exact ⟨c0, c1, c2, B0.out.drew⟩ | exact keep_jdi HX.out B0.out.drew hb1)
    (first | (go_at_call 120; refine (HG.out _ B0.out.drew).mono ?_; rintro e w1 ⟨rfl, hb1⟩))
  all_goals
    have hb : Below w.heap.size w w1 := B0.out.drew.trans (hb1.mono (by simp))
    have HB := Lib.hid hb
    clear hb1 hb c0 c1 c2
    go_wp2
    go_ret2
    exact Jo.fault (by decide) (Fr.of_below HS.out.lt HB.out)

theorem jget_any {K : Nat → Prop} {R : Nat} {s : Value} {l : List Bool} {N most : Nat} {w : World} {p : Nat} {out : List Nat} (n : Nat) (hS : Ds K R s l N most w p out) (hl : Hid (N = l.length)) (hN : N ≤ 2251799813685248) (hn : n ≤ 32) :
    Calls Tryz.prog 75 #[.pointer (some ⟨R, 0, none⟩), .int .i64 (n : Int)] w (Jo K w (numE N p n) (.tuple #[.int .i64 (Hd.num l p n : Int), .int .i64 0]) (.tuple #[.int .i64 0, .int .i64 4]) (fun w' => Ds K R s l N most w' (p + n) out)) := by
  unfold numE
  by_cases h : N < p + n
  · rw [if_pos h]; exact jget_short n hS hl hN hn h _ _
  · rw [if_neg h]; exact jget_ok n hS hl hN hn (by omega) _

set_option maxRecDepth 100000 in
set_option maxHeartbeats 4000000 in
theorem jsym_any {K : Nat → Prop} {R : Nat} {s : Value} {l : List Bool} {N most : Nat} {w : World} {p : Nat} {out : List Nat} (tb : Value) (ls : List Nat) (hT : Zk K w tb ls) (hfit : Fit (Hd.zz ls)) (hS : Ds K R s l N most w p out) (hl : Hid (N = l.length)) (hN : N ≤ 2251799813685248)
    (y q : Nat) (c : Int) (hr : Hid (Hd.rd ls l p = (y, q, c))) :
    Calls Tryz.prog 121 #[.pointer (some ⟨R, 0, none⟩), tb] w (Jo K w c (.tuple #[.int .i64 (y : Int), .int .i64 0]) (.tuple #[.int .i64 0, .int .i64 c]) (fun w' => Ds K R s l N most w' q out)) := by
  obtain ⟨ov, hx, _, _⟩ := hS.has
  have hp := hS.pn
  obtain ⟨c0, c1, c2, _⟩ := jdi_cells hx
  have hq : c = 0 → q ≤ N := fun h => by
    have := (Hd.rd_lt (by rw [← hl.out]; exact hp) hr.out).1 h
    rw [hl.out]; exact this.2.2
  have HX := Lib.hid hx
  have HS := Lib.hid hS
  have B0 := Lib.hid (Below.refl w.heap.size w)
  have HG := Lib.hid (fun w' (hb : Below w.heap.size w w') => rread_rd tb ls s l N p w' (hS.sl.later hb) (hT.zl.later hb) hl hN hp hfit y q c hr)
  clear hx hS hT
  by_cases hc : c = 0
  · subst hc
    have hqN := hq rfl
    clear hq
    go_enter Tryz.func121, Tryz.ntmps121
    go_wp2
    go_region_held3 (fun wx => wx.cell? ⟨R, 0, none⟩ = some s ∧ wx.cell? ⟨R, 1, none⟩ = some (.int .i64 (N : Int)) ∧ wx.cell? ⟨R, 2, none⟩ = some (.int .i64 (p : Int)) ∧ Below w.heap.size w wx) (first | exact ⟨c0, c1, c2, B0.out.drew⟩ | exact keep_jdi HX.out B0.out.drew hb1)
      (first | (go_at_call 165; refine (HG.out _ B0.out.drew).mono ?_; rintro e w1 ⟨rfl, hb1⟩))
    all_goals
      have hb : Below w.heap.size w w1 := B0.out.drew.trans (hb1.mono (by simp))
      have hx1 := HX.out.later hb
      obtain ⟨d0, d1, d2, _⟩ := jdi_cells hx1
      have y2 := jdi_free hx1 2
      have HB := Lib.hid hb
      clear hb1 hb hx1 c0 c1 c2
      go_wp2
      go_ret2
      have hS1 := HS.out.later HB.out
      exact Jo.intro ((Fr.of_below HS.out.lt HB.out).trans (hS1.at_fr q)) (hS1.at q hqN)
  · clear hq
    have e9 : (c != 0) = true := by rw [bne_iff_ne]; exact hc
    have HC := Lib.hid hc
    clear hc
    go_enter Tryz.func121, Tryz.ntmps121
    go_wp2
    go_region_held3 (fun wx => wx.cell? ⟨R, 0, none⟩ = some s ∧ wx.cell? ⟨R, 1, none⟩ = some (.int .i64 (N : Int)) ∧ wx.cell? ⟨R, 2, none⟩ = some (.int .i64 (p : Int)) ∧ Below w.heap.size w wx) (first | exact ⟨c0, c1, c2, B0.out.drew⟩ | exact keep_jdi HX.out B0.out.drew hb1)
      (first | (go_at_call 165; refine (HG.out _ B0.out.drew).mono ?_; rintro e w1 ⟨rfl, hb1⟩))
    all_goals
      have hb : Below w.heap.size w w1 := B0.out.drew.trans (hb1.mono (by simp))
      have HB := Lib.hid hb
      clear hb1 hb c0 c1 c2
      go_wp2
      go_ret2
      exact Jo.fault HC.out (Fr.of_below HS.out.lt HB.out)
end Go.Proofs.YtnjlljdbghcobaaGreatDoor
