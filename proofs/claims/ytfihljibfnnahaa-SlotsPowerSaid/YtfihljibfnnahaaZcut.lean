/- SlotsPower: its arguments; a Commit that is cut off. -/
import Derived.Test.YtfihljibfnnahaaZback

namespace Go.Proofs.Ytfihljibfnnahaa
set_option maxRecDepth 100000
open Go.ChangeShapes Go.WideShapes Go.ChangeAt Go.RowKit

theorem Try.cellsInt' : Try.prog.cellsOf 3 = 1 := by kernel_rfl
theorem Try.cellsInts' : Try.prog.cellsOf 37 = 1 := by kernel_rfl
/-- A slice of numbers, read. -/
theorem ks_trod' {H : Type} {enc : TypeId × Value → H} {W : World} {fuel : Nat} {cs : List Value} {x : DataW H × List MemPlace}
    (h : DataW.trod enc Try.prog W 0 (fun _ => true) true fuel 37 cs = some x) : ∃ s ks, cs = [s] ∧ Ks W s ks := by
  rcases open_ints Try.underlying37 Try.underlying3 Try.cellsInt' h with ⟨rfl, rfl⟩ | ⟨a, len, cap, zs, rfl, _, hl, hm, hz, rfl, hcell, hwz⟩
  · exact ⟨_, [], rfl, none, 0, rfl, by simp, by simp, fun h => absurd h (by simp)⟩
  · have hz' : zs.length = cap := by simpa using hz
    have hm' : cap ≤ 9223372036854775807 := by unfold maxLen at hm; omega
    have hlen : (zs.take len).length = len := by simp; omega
    refine ⟨_, zs.take len, rfl, some a, cap, by rw [hlen], by omega, fun k hk => wf_bounds (hwz k (List.mem_of_mem_take hk)), fun h0 => ?_⟩
    rw [hlen] at h0
    obtain ⟨b, off, spot⟩ := a
    have hc0 := hcell 0 (by omega)
    have hspot : spot = none := by simpa [Addr.add] using World.cell?_spot hc0
    subst hspot
    refine ⟨b, off, rfl, fun i hi => ?_⟩
    rw [hlen] at hi
    have hc := hcell i (by omega)
    rw [Addr.add_mid] at hc
    rw [hc]
    have hi' : i < zs.length := by omega
    simp [hi, List.getElem?_eq_getElem hi', List.getD]

/-- A slice of slices of numbers. -/
def Kss (W : World) (v : Value) : Prop := ∃ a n cap, v = .slice a n cap ∧ n ≤ 9223372036854775807 ∧
  (0 < n → ∃ b off, a = some ⟨b, off, none⟩ ∧ b < W.heap.size ∧ ∀ i, i < n → ∃ kv ks, W.cell? ⟨b, off + i, none⟩ = some kv ∧ Ks W kv ks)
theorem kss_open {H : Type} {enc : TypeId × Value → H} {W : World} {v : Value} {d : DataW H} {p : List MemPlace} {base : Nat} (hv : Value.okWide Try.prog W .any base 77 v)
    (h : DataW.Trod enc Try.prog W 0 (fun _ => true) true 77 v d p) : Kss W v := by
  obtain ⟨a1, len, cap, rfl⟩ := okWide_slice Try.underlying77 hv
  obtain ⟨fuel, hf⟩ := h
  have hc1 := Try.cellsInts'
  rcases DataW.trod_slice Try.underlying77 hf with ⟨hcs, _⟩ | ⟨a, len', cap', elems, rest, n, _, hcs, hx, _, hl, hm, hlen, hel, _⟩
  · simp [Value.cells] at hcs
    obtain ⟨rfl, rfl, rfl⟩ := hcs
    exact ⟨_, _, _, rfl, by omega, fun h0 => absurd h0 (by omega)⟩
  · simp [Value.cells] at hcs
    obtain ⟨rfl, rfl, rfl⟩ := hcs
    refine ⟨_, _, _, rfl, by unfold maxLen at hm; omega, fun h0 => ?_⟩
    have key : ∀ i, i < len → ∃ c, W.cell? (a.add i) = some c ∧ ∃ y, DataW.trod enc Try.prog W 0 (fun _ => true) true n 37 [c] = some y := by
      intro i hi
      have hE := hel i hi
      rw [hc1, Nat.mul_one] at hE
      rw [List.getElem?_eq_getElem (by omega)] at hE
      simp only [Option.bind_eq_some_iff] at hE
      obtain ⟨c1, hc1, hy1⟩ := hE
      have e0 : (a.add i).add 0 = a.add i := by simp [Addr.add]
      have : ∃ c, c1 = [c] ∧ W.cell? (a.add i) = some c := by
        unfold World.cells? at hc1
        split at hc1
        · simp only [List.range_succ, List.range_zero, List.nil_append, List.mapM_cons, List.mapM_nil, e0] at hc1
          cases hcc : W.cell? (a.add i) with
          | none => simp [hcc] at hc1
          | some c => simp [hcc] at hc1; exact ⟨c, hc1.symm, rfl⟩
        · cases hc1
      obtain ⟨c, rfl, hcell⟩ := this
      exact ⟨c, hcell, _, hy1⟩
    obtain ⟨b, off, spot⟩ := a
    obtain ⟨c0, hc0, _⟩ := key 0 h0
    have hspot : spot = none := by simpa [Addr.add] using World.cell?_spot hc0
    subst hspot
    refine ⟨b, off, rfl, ?_, fun i hi => ?_⟩
    · have := World.block_lt_of_cell? W _ hc0
      simpa [Addr.add] using this
    · obtain ⟨c, hc, y, hy⟩ := key i hi
      have e : (⟨b, off, none⟩ : Addr).add i = ⟨b, off + i, none⟩ := by cases i <;> simp [Addr.add]
      rw [e] at hc
      obtain ⟨s, ks, e2, e3⟩ := ks_trod' hy
      have : c = s := by simpa using e2
      subst this
      exact ⟨c, ks, hc, e3⟩
def KsAt (w : World) (a : Option Addr) (n : Nat) : Prop := ∀ k, k < n → ∃ b off ka kn kc ks, a = some ⟨b, off, none⟩ ∧ ∀ w', Below w.heap.size w w' → w'.cell? ⟨b, off + k, none⟩ = some (.slice ka kn kc) ∧ Ks w' (.slice ka kn kc) ks
theorem ks_at {w : World} {a : Option Addr} {n : Nat} (h : 0 < n → ∃ b off, a = some ⟨b, off, none⟩ ∧ b < w.heap.size ∧ ∀ i, i < n → ∃ kv ks, w.cell? ⟨b, off + i, none⟩ = some kv ∧ Ks w kv ks) : KsAt w a n := fun k hk => by
  obtain ⟨b, off, ha, hb, hc⟩ := h (by omega)
  obtain ⟨kv, ks, h1, h2⟩ := hc k hk
  obtain ⟨ka, kc, e, _⟩ := id h2
  subst e
  exact ⟨b, off, ka, _, kc, ks, ha, fun w' hw => ⟨(World.cell?_of_block (a := ⟨b, off + k, none⟩) (hw.block b hb)).trans h1, h2.keep (keepA_below hw)⟩⟩
/-- Bytes, at all later worlds. -/
def ByAt (w : World) (a : Option Addr) (n : Nat) : Prop := ∀ k, k < n → ∃ b off x, a = some ⟨b, off, none⟩ ∧ x < 256 ∧ ∀ w', Below w.heap.size w w' → w'.cell? ⟨b, off + k, none⟩ = some (.int .u8 ((x : Nat) : Int))
theorem by_at {w : World} {a : Option Addr} {n cap : Nat} {bs : List Nat} (h : Sl w (.slice a n cap) bs) : ByAt w a n := fun k hk => by
  obtain ⟨a', l', c', e, h1, _, _, h8, h5⟩ := h
  injection e with e1 e2 e3
  subst e1 e2 e3
  obtain ⟨b, off, ha, hb, hc⟩ := h5 (by omega)
  refine ⟨b, off, bs[k]?.getD 0, ha, ?_, fun w' hw => (World.cell?_of_block (a := ⟨b, off + k, none⟩) (hw.block b hb)).trans (hc k hk)⟩
  rw [List.getElem?_eq_getElem (by omega)]
  exact h8 _ (List.getElem_mem _)

namespace Sk
/-- A disk with nothing loose, whatever its fuse. -/
def Half (d : Ek.Dk) (last : List Nat) (gen : Nat) (u : Nat) : Prop := d.loose = [] ∧ d.dark = false ∧ d.n = 9 ∧ (∃ sl, Loads 9 (Ek.now d) last gen sl) ∧ d.used ≤ u
theorem Good.half {d : Ek.Dk} {last : List Nat} {gen u : Nat} (h : Good d last gen u) : Half d last gen u := ⟨h.1.1, h.1.2.1, h.2.1, h.2.2.1, h.2.2.2⟩
theorem Good.fused {d : Ek.Dk} {last : List Nat} {gen u : Nat} (h : Good d last gen u) (f : Int) : Half (Ek.fuse d f) last gen u := ⟨h.1.1, h.1.2.1, h.2.1, h.2.2.1, h.2.2.2⟩
theorem Half.cut {d : Ek.Dk} {last : List Nat} {gen u : Nat} (h : Half d last gen u) (hok : Ek.Ok d) (bs : List Nat) (h8 : ∀ x ∈ bs, x < 256) (hb : bs.length ≤ 2048) (hg : gen < 4294967295) :
    (commitE d bs = 0 ∧ ∀ keep, Good (Ek.crash (commit d bs) keep) bs (gen + 1) (u + 7)) ∨
    (commitE d bs = 6 ∧ (commit d bs).dark = true ∧ ∀ keep, Good (Ek.crash (commit d bs) keep) last gen (u + 7) ∨ Good (Ek.crash (commit d bs) keep) bs (gen + 1) (u + 7)) := by
  obtain ⟨hc, hd, hn, ⟨sl, hlo⟩, hu⟩ := h
  have hlo' : Loads d.n (Ek.now d) last gen sl := by rw [hn]; exact hlo
  have hb' : bs.length ≤ room d.n := by rw [hn]; exact hb
  have hp : pieces bs ≤ 4 := by unfold pieces; omega
  have hk := crash_loads hok hc hd (by omega) hlo' hg bs h8 hb'
  rcases commit_ends hok hc hd (by omega) hlo' hg bs h8 hb' with ⟨h1, h2, _, _, _, _, h7⟩ | ⟨h1, h2, h3, _, _, h7⟩
  · left
    refine ⟨h1, fun keep => ?_⟩
    rcases hk keep with ⟨_, q⟩ | ⟨q, _⟩
    · exact ⟨⟨rfl, rfl, rfl⟩, h2.trans hn, ⟨_, by rw [hn] at q; exact q⟩, by show (commit d bs).used ≤ _; omega⟩
    · rw [h1] at q; exact absurd q (by decide)
  · right
    refine ⟨h1, h2, fun keep => ?_⟩
    rcases hk keep with ⟨q, _⟩ | ⟨_, _, q | q⟩
    · rw [h1] at q; exact absurd q (by decide)
    · exact Or.inl ⟨⟨rfl, rfl, rfl⟩, h3.trans hn, ⟨_, by rw [hn] at q; exact q⟩, by show (commit d bs).used ≤ _; omega⟩
    · exact Or.inr ⟨⟨rfl, rfl, rfl⟩, h3.trans hn, ⟨_, by rw [hn] at q; exact q⟩, by show (commit d bs).used ≤ _; omega⟩
end Sk
theorem lz_dark1 {w0 w : World} {b : Nat} {d : Ek.Dk} {N : Nat} (h : Lv w0 w b d N) (hl : d.dark = true) : Calls Try.prog 41 #[.pointer (some ⟨b, 0, none⟩)] w fun e w' => e = .returned (.bool true) ∧ w = w' :=
  (lv_dark h).mono fun e w' hp => by rw [hl] at hp; exact hp
/-- A conversion in a quiet walk. -/
theorem quiet_conv {P : Program} {C : World → Prop} {K : Act → Prop} {a : Act} {o : Oper} (s d : TypeId) (x : Operand) (u v : Value) (hop : o.op = .convert s d x) (hv : a.eval x = u) (h : ∀ w, C w → (convert s d u).run P w = .ok v w) (hk : K (a.put o.dst v)) : o.quiet P a C K :=
  ⟨v, fun w hw => by
    have h1 := h w hw
    unfold Oper.quietAt execOp
    rw [hop]
    dsimp only
    rw [hv]
    simp [go_sem, h1, Oper.quietUpon], hk⟩
theorem sl_drewN {w : World} {v : Value} {bs : List Nat} (h : Sl w v bs) (n : Nat) : Sl (w.drewN n) v bs := h.later (below_drewN (Below.refl _ _) n)
theorem sl_drew {w : World} {v : Value} {bs : List Nat} (h : Sl w v bs) : Sl w.drew v bs := h.later (below_drewN (Below.refl _ _) 1)
end Go.Proofs.Ytfihljibfnnahaa
