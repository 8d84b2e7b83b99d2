/- Lists of calls, and numbers, as arguments of the statements. -/
import Derived.Test.YtillckjohlbaiaaEkp
import Derived.Test.YtillckjohlbaiaaCarg
import Derived.Test.YtillckjohlbaiaaElive
import Derived.ChangeArms
import Derived.DataReads

namespace Go.Proofs.Ytillckjohlbaiaa
set_option maxRecDepth 100000
open Go.ChangeShapes Go.WideShapes Go.ChangeAt Go.RowKit

theorem Try.cellsInt : Try.prog.cellsOf 3 = 1 := by kernel_rfl
theorem Try.cellsInts : Try.prog.cellsOf 46 = 1 := by kernel_rfl
theorem Try.cellsAct : Try.prog.cellsOf 48 = 5 := by kernel_rfl

/-- A slice of numbers, read. -/
theorem ks_trod {H : Type} {enc : TypeId × Value → H} {W : World} {fuel : Nat} {cs : List Value} {x : DataW H × List MemPlace}
    (h : DataW.trod enc Try.prog W 0 (fun _ => true) true fuel 46 cs = some x) : ∃ s ks, cs = [s] ∧ Ks W s ks := by
  rcases open_ints Try.underlying46 Try.underlying3 Try.cellsInt h with ⟨rfl, rfl⟩ | ⟨a, len, cap, zs, rfl, _, hl, hm, hz, rfl, hcell, hwz⟩
  · exact ⟨_, [], rfl, none, 0, rfl, by simp, by simp, fun h => absurd h (by simp)⟩
  · have hz' : zs.length = cap := by simpa using hz
    have hm' : cap ≤ 9223372036854775807 := by unfold maxLen at hm; omega
    have hlen : (zs.take len).length = len := by simp; omega
    refine ⟨_, zs.take len, rfl, some a, cap, by rw [hlen], by omega, fun k hk => wf_bounds (hwz k (List.mem_of_mem_take hk)), fun h0 => ?_⟩
    rw [hlen] at h0
    obtain ⟨b, off, spot⟩ := a
    have hc0 := hcell 0 (by omega)
    have hspot : spot = none := by simpa [Addr.add] using World.cell?_spot hc0
    subst hspot
    refine ⟨b, off, rfl, fun i hi => ?_⟩
    rw [hlen] at hi
    have hc := hcell i (by omega)
    rw [Addr.add_mid] at hc
    rw [hc]
    have hi' : i < zs.length := by omega
    simp [hi, List.getElem?_eq_getElem hi', List.getD]

/-- A slice of numbers as an argument. -/
theorem ks_open {H : Type} {enc : TypeId × Value → H} {W : World} {base : Nat} {v : Value} {d : DataW H} {p : List MemPlace} (hv : Value.okWide Try.prog W .any base 46 v)
    (h : DataW.Trod enc Try.prog W 0 (fun _ => true) true 46 v d p) : ∃ ks, Ks W v ks := by
  obtain ⟨a1, len, cap, rfl⟩ := okWide_slice Try.underlying46 hv
  obtain ⟨fuel, hf⟩ := h
  obtain ⟨s, ks, e, hs⟩ := ks_trod hf
  simp [Value.cells] at e
  subst e
  exact ⟨ks, hs⟩

/-- A call of a list of calls. -/
structure Ac where
  kind : Int
  i : Int
  c : Nat
  long : Int
  kv : Value
  keep : List Int

/-- The call ac lies in block b from o on. -/
structure AcAt (w : World) (b o : Nat) (ac : Ac) : Prop where
  kind : w.cell? ⟨b, o, none⟩ = some (.int .i64 ac.kind)
  i : w.cell? ⟨b, o + 1, none⟩ = some (.int .i64 ac.i)
  c : w.cell? ⟨b, o + 2, none⟩ = some (.int .u8 (ac.c : Int))
  long : w.cell? ⟨b, o + 3, none⟩ = some (.int .i64 ac.long)
  kv : w.cell? ⟨b, o + 4, none⟩ = some ac.kv
  ks : Ks w ac.kv ac.keep
  c8 : ac.c < 256
  bi : -9223372036854775808 ≤ ac.i ∧ ac.i ≤ 9223372036854775807
  bk : -9223372036854775808 ≤ ac.kind ∧ ac.kind ≤ 9223372036854775807
  bl : -9223372036854775808 ≤ ac.long ∧ ac.long ≤ 9223372036854775807
theorem AcAt.keep' {w w' : World} {b o : Nat} {ac : Ac} (h : AcAt w b o ac) (hk : KeepA w w') : AcAt w' b o ac :=
  ⟨hk.cell h.kind, hk.cell h.i, hk.cell h.c, hk.cell h.long, hk.cell h.kv, h.ks.keep hk, h.c8, h.bi, h.bk, h.bl⟩

/-- The slice value s reads the calls l. -/
def Acts (w : World) (s : Value) (l : List Ac) : Prop :=
  ∃ a cap, s = .slice a l.length cap ∧ l.length ≤ 9223372036854775807 ∧ (0 < l.length → ∃ b off, a = some ⟨b, off, none⟩ ∧ ∀ j ac, l[j]? = some ac → AcAt w b (off + j * 5) ac)
theorem Acts.keep {w w' : World} {s : Value} {l : List Ac} (h : Acts w s l) (hk : KeepA w w') : Acts w' s l := by
  obtain ⟨a, cap, e, h1, h2⟩ := h
  refine ⟨a, cap, e, h1, fun hp => ?_⟩
  obtain ⟨b, off, e2, hc⟩ := h2 hp
  exact ⟨b, off, e2, fun j ac hj => (hc j ac hj).keep' hk⟩

theorem act_cells {H : Type} {enc : TypeId × Value → H} {W : World} {n : Nat} {cs : List Value} {x : DataW H × List MemPlace} (h : DataW.trod enc Try.prog W 0 (fun _ => true) true n 48 cs = some x) (hl : cs.length = 5) :
    ∃ ac : Ac, cs = [.int .i64 ac.kind, .int .i64 ac.i, .int .u8 (ac.c : Int), .int .i64 ac.long, ac.kv] ∧ Ks W ac.kv ac.keep ∧ ac.c < 256 ∧ (-9223372036854775808 ≤ ac.i ∧ ac.i ≤ 9223372036854775807) ∧ (-9223372036854775808 ≤ ac.kind ∧ ac.kind ≤ 9223372036854775807) ∧ (-9223372036854775808 ≤ ac.long ∧ ac.long ≤ 9223372036854775807) := by
  obtain ⟨xs, n', _, _, _, hxl, hf⟩ := DataW.trod_struct Try.underlying48 h
  match cs, hl with
  | [c0, c1, c2, c3, c4], _ =>
    have hx5 : xs.length = 5 := by simpa using hxl
    have g : ∀ i, i < 5 → xs[i]? = some (xs[i]?.getD x) := fun i hi => by rw [List.getElem?_eq_getElem (by omega)]; rfl
    have f0 : DataW.trod enc Try.prog W 0 (fun _ => true) true n' 3 (List.take (Try.prog.cellsOf 3) (List.drop 0 [c0, c1, c2, c3, c4])) = some _ := (hf 0 _ rfl).trans (g 0 (by decide))
    have f1 : DataW.trod enc Try.prog W 0 (fun _ => true) true n' 3 (List.take (Try.prog.cellsOf 3) (List.drop 1 [c0, c1, c2, c3, c4])) = some _ := (hf 1 _ rfl).trans (g 1 (by decide))
    have f2 : DataW.trod enc Try.prog W 0 (fun _ => true) true n' 5 (List.take (Try.prog.cellsOf 5) (List.drop 2 [c0, c1, c2, c3, c4])) = some _ := (hf 2 _ rfl).trans (g 2 (by decide))
    have f3 : DataW.trod enc Try.prog W 0 (fun _ => true) true n' 3 (List.take (Try.prog.cellsOf 3) (List.drop 3 [c0, c1, c2, c3, c4])) = some _ := (hf 3 _ rfl).trans (g 3 (by decide))
    have f4 : DataW.trod enc Try.prog W 0 (fun _ => true) true n' 46 (List.take (Try.prog.cellsOf 46) (List.drop 4 [c0, c1, c2, c3, c4])) = some _ := (hf 4 _ rfl).trans (g 4 (by decide))
    simp only [Try.cellsInt, Try.cellsInts, Try.cellsU8, List.drop_zero, List.drop_succ_cons, List.take_succ_cons, List.take_zero] at f0 f1 f2 f3 f4
    obtain ⟨n0, e0, _, w0⟩ := DataW.trod_int Try.underlying3 f0
    obtain ⟨n1, e1, _, w1⟩ := DataW.trod_int Try.underlying3 f1
    obtain ⟨n2, e2, _, w2⟩ := DataW.trod_int Try.underlying5 f2
    obtain ⟨n3, e3, _, w3⟩ := DataW.trod_int Try.underlying3 f3
    obtain ⟨kv, ks, e4, hks⟩ := ks_trod f4
    simp only [List.cons.injEq, and_true] at e0 e1 e2 e3 e4
    have b2 := wf_u8 w2
    exact ⟨⟨n0, n1, n2.toNat, n3, kv, ks⟩, by rw [e0, e1, e2, e3, e4, show ((n2.toNat : Nat) : Int) = n2 by omega], hks, by show n2.toNat < 256; omega, wf_bounds w1, wf_bounds w0, wf_bounds w3⟩

/-- A list of calls as an argument. -/
theorem acts_open {H : Type} {enc : TypeId × Value → H} {W : World} {base : Nat} {v : Value} {d : DataW H} {p : List MemPlace} (hv : Value.okWide Try.prog W .any base 33 v)
    (h : DataW.Trod enc Try.prog W 0 (fun _ => true) true 33 v d p) : ∃ l, Acts W v l := by
  obtain ⟨a1, len, cap, rfl⟩ := okWide_slice Try.underlying33 hv
  obtain ⟨fuel, hf⟩ := h
  rcases DataW.trod_slice Try.underlying33 hf with ⟨hcs, _⟩ | ⟨a, len', cap', elems, rest, n, _, hcs, _, _, hl, hm, hlen, hel, _⟩
  · simp [Value.cells] at hcs
    obtain ⟨rfl, rfl, rfl⟩ := hcs
    exact ⟨[], none, 0, rfl, by simp, fun h => absurd h (by simp)⟩
  · simp [Value.cells] at hcs
    obtain ⟨rfl, rfl, rfl⟩ := hcs
    have hm' : cap ≤ 9223372036854775807 := by unfold maxLen at hm; omega
    obtain ⟨b, off, spot⟩ := a
    have els : ∀ j, j < len → ∃ cs x, W.cells? 0 ((⟨b, off, spot⟩ : Addr).add (j * 5)) 5 = some cs ∧ DataW.trod enc Try.prog W 0 (fun _ => true) true n 48 cs = some x := fun j hj => by
      have hE := hel j hj
      rw [Try.cellsAct, List.getElem?_eq_getElem (by omega)] at hE
      simp only [Option.bind_eq_some_iff] at hE
      obtain ⟨cs, hcs, ht⟩ := hE
      exact ⟨cs, _, hcs, ht⟩
    rcases Nat.eq_zero_or_pos len with rfl | hpos
    · exact ⟨[], some ⟨b, off, spot⟩, cap, rfl, by simp, fun h => absurd h (by simp)⟩
    have hs : spot = none := by
      obtain ⟨cs, x, hcs, ht⟩ := els 0 hpos
      obtain ⟨_, hcl, hat⟩ := World.cells?_some hcs
      obtain ⟨ac, rfl, _⟩ := act_cells ht hcl
      have at0 := hat 0 (by decide)
      simpa [Addr.add] using World.cell?_spot at0
    subst hs
    have one : ∀ j, j < len → ∃ ac : Ac, AcAt W b (off + j * 5) ac := fun j hj => by
      obtain ⟨cs, x, hcs, ht⟩ := els j hj
      obtain ⟨_, hcl, hat⟩ := World.cells?_some hcs
      obtain ⟨ac, rfl, hk, h8, hi, hkd, hlg⟩ := act_cells ht hcl
      have cell : ∀ k, k < 5 → W.cell? ⟨b, off + j * 5 + k, none⟩ = [Value.int .i64 ac.kind, .int .i64 ac.i, .int .u8 (ac.c : Int), .int .i64 ac.long, ac.kv][k]? := fun k hk => by
        have := hat k hk
        rw [Addr.add_mid, Addr.add_mid] at this
        exact this
      exact ⟨ac, ⟨cell 0 (by decide), cell 1 (by decide), cell 2 (by decide), cell 3 (by decide), cell 4 (by decide), hk, h8, hi, hkd, hlg⟩⟩
    have dflt : Ac := ⟨0, 0, 0, 0, .slice none 0 0, []⟩
    refine ⟨(List.range len).map fun j => if h : j < len then Classical.choose (one j h) else dflt, some ⟨b, off, none⟩, cap, by simp, by simp; omega, fun _ => ⟨b, off, rfl, fun j ac hj => ?_⟩⟩
    have hjl : j < len := by
      have := (List.getElem?_eq_some_iff.1 hj).1
      simpa using this
    rw [List.getElem?_map, List.getElem?_range hjl] at hj
    simp only [Option.map_some, Option.some.injEq, dif_pos hjl] at hj
    rw [← hj]
    exact Classical.choose_spec (one j hjl)
end Go.Proofs.Ytillckjohlbaiaa

/- Contract of valiselaw11.done. -/
namespace Go.Proofs.Ytillckjohlbaiaa
set_option maxRecDepth 100000
open Go.RowKit

namespace Ek
def stepA (d : Dk) (ac : Ac) : Dk := if ac.kind = 1 then write d ac.i (fil ac.c (fln ac.long)) else if ac.kind = 2 then sync d else if ac.kind = 4 then crash d (nth ac.keep) else d
/-- The disk behind the first k calls. -/
def dn (n : Nat) (l : List Ac) : Nat → Dk
  | 0 => fresh n
  | k + 1 => match l[k]? with
    | some ac => stepA (dn n l k) ac
    | none => dn n l k
/-- A disk without a fuse. -/
structure Fr (d : Dk) (n i : Nat) : Prop where
  n : d.n = n
  dark : d.dark = false
  left : d.left = -1
  used : d.used ≤ i
theorem Fr.step {d : Dk} {n i : Nat} (h : Fr d n i) (ac : Ac) : Fr (stepA d ac) n (i + 1) := by
  have hu := h.used
  unfold stepA
  split
  · by_cases hb : Bad d ac.i (fil ac.c (fln ac.long))
    · have e : write d ac.i (fil ac.c (fln ac.long)) = d := by unfold write; rw [if_pos hb]
      rw [e]; exact ⟨h.n, h.dark, h.left, by omega⟩
    · have e : write d ac.i (fil ac.c (fln ac.long)) = added d ac.i (fil ac.c (fln ac.long)) := by
        unfold write
        rw [if_neg hb, if_neg (by rw [h.dark]; decide)]
        exact (change_free (d := added d ac.i (fil ac.c (fln ac.long))) h.dark h.left).1
      rw [e]; exact ⟨h.n, h.dark, h.left, by show d.used + 1 ≤ _; omega⟩
  · split
    · obtain ⟨a, b⟩ := change_free h.dark h.left
      have e : sync d = settled d (fun _ => 1) := by unfold sync; rw [if_pos b, a]
      rw [e]; exact ⟨h.n, h.dark, h.left, by show d.used ≤ _; omega⟩
    · split
      · exact ⟨h.n, rfl, rfl, by show d.used ≤ _; omega⟩
      · exact ⟨h.n, h.dark, h.left, by omega⟩
theorem dn_fr (n : Nat) (l : List Ac) (k : Nat) : Fr (dn n l k) n k := by
  induction k with
  | zero => exact ⟨rfl, rfl, rfl, Nat.le_refl _⟩
  | succ k ih =>
    simp only [dn]
    split
    · exact ih.step _
    · exact ⟨ih.n, ih.dark, ih.left, by have := ih.used; omega⟩
end Ek

end Go.Proofs.Ytillckjohlbaiaa
