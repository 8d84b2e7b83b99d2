/- A list of calls of valiselaw12 as an argument. -/
import Derived.Test.YthbiibinmofmfaaEact8
import Derived.Test.YthbiibinmofmfaaZback

namespace Go.Proofs.Ythbiibinmofmfaa
set_option maxRecDepth 100000
open Go.ChangeShapes Go.WideShapes Go.ChangeAt Go.RowKit Go.Joins

theorem Try.cellsZact : Try.prog.cellsOf 38 = 6 := by kernel_rfl
theorem Try.cellsBytes6 : Try.prog.cellsOf 35 = 1 := by kernel_rfl
theorem Zel.later {w w' : World} {v : Value} {l c : Nat} {bs : List Nat} (h : Zel w v l c bs) (hb : Below w.heap.size w w') : Zel w' v l c bs := ⟨h.1, h.2.1, fun q => (h.2.2 q).later hb⟩

/-- A call. -/
structure Zc where
  kind : Int
  ba : Option Addr
  bl : Nat
  bc : Nat
  bs : List Nat
  i : Int
  long : Int
  c : Nat
  kv : Value
  keep : List Int

/-- The call ac lies in block b from o on. -/
structure ZcAt (w : World) (b o : Nat) (ac : Zc) : Prop where
  kind : w.cell? ⟨b, o, none⟩ = some (.int .i64 ac.kind)
  bv : w.cell? ⟨b, o + 1, none⟩ = some (.slice ac.ba ac.bl ac.bc)
  i : w.cell? ⟨b, o + 2, none⟩ = some (.int .i64 ac.i)
  long : w.cell? ⟨b, o + 3, none⟩ = some (.int .i64 ac.long)
  c : w.cell? ⟨b, o + 4, none⟩ = some (.int .u8 (ac.c : Int))
  kv : w.cell? ⟨b, o + 5, none⟩ = some ac.kv
  el : Zel w (.slice ac.ba ac.bl ac.bc) ac.bl ac.bc ac.bs
  ks : Ks w ac.kv ac.keep
  c8 : ac.c < 256
  bi : -9223372036854775808 ≤ ac.i ∧ ac.i ≤ 9223372036854775807
  bk : -9223372036854775808 ≤ ac.kind ∧ ac.kind ≤ 9223372036854775807
  bg : -9223372036854775808 ≤ ac.long ∧ ac.long ≤ 9223372036854775807
theorem ZcAt.later {w w' : World} {b o : Nat} {ac : Zc} (h : ZcAt w b o ac) (hb : Below w.heap.size w w') : ZcAt w' b o ac :=
  have hk := keepA_below hb
  ⟨hk.cell h.kind, hk.cell h.bv, hk.cell h.i, hk.cell h.long, hk.cell h.c, hk.cell h.kv, h.el.later hb, h.ks.keep hk, h.c8, h.bi, h.bk, h.bg⟩
def Zk8 (ac : Zc) : Prop := ac.keep.length * 8 ≤ 140737488351232 ∧ ∀ n c, ac.kv = .slice none n c → c = 0

/-- The slice value s reads the calls l. -/
def Zcs (w : World) (s : Value) (l : List Zc) : Prop :=
  ∃ a cap, s = .slice a l.length cap ∧ l.length ≤ 9223372036854775807 ∧ (0 < l.length → ∃ b off, a = some ⟨b, off, none⟩ ∧ ∀ j ac, l[j]? = some ac → ZcAt w b (off + j * 6) ac)

theorem zact_cells {H : Type} {enc : TypeId × Value → H} {W : World} {n : Nat} {cs : List Value} {x : DataW H × List MemPlace} (h : DataW.trod enc Try.prog W 0 (fun _ => true) true n 38 cs = some x) (hl : cs.length = 6) (hw : ∀ m ∈ x.1.weights Try.prog 38, m ≤ reachBytes) :
    ∃ ac : Zc, cs = [.int .i64 ac.kind, .slice ac.ba ac.bl ac.bc, .int .i64 ac.i, .int .i64 ac.long, .int .u8 (ac.c : Int), ac.kv] ∧ Zel W (.slice ac.ba ac.bl ac.bc) ac.bl ac.bc ac.bs ∧ Ks W ac.kv ac.keep ∧ ac.c < 256 ∧ (-9223372036854775808 ≤ ac.i ∧ ac.i ≤ 9223372036854775807) ∧ (-9223372036854775808 ≤ ac.kind ∧ ac.kind ≤ 9223372036854775807) ∧ (-9223372036854775808 ≤ ac.long ∧ ac.long ≤ 9223372036854775807) ∧ Zk8 ac := by
  obtain ⟨xs, n', _, hxd, _, hxl, hf⟩ := DataW.trod_struct Try.underlying38 h
  match cs, hl with
  | [c0, c1, c2, c3, c4, c5], _ =>
    have hx6 : xs.length = 6 := by simpa using hxl
    have g : ∀ i, i < 6 → xs[i]? = some (xs[i]?.getD x) := fun i hi => by rw [List.getElem?_eq_getElem (by omega)]; rfl
    have f0 : DataW.trod enc Try.prog W 0 (fun _ => true) true n' 3 (List.take (Try.prog.cellsOf 3) (List.drop 0 [c0, c1, c2, c3, c4, c5])) = some _ := (hf 0 _ rfl).trans (g 0 (by decide))
    have f1 : DataW.trod enc Try.prog W 0 (fun _ => true) true n' 35 (List.take (Try.prog.cellsOf 35) (List.drop 1 [c0, c1, c2, c3, c4, c5])) = some _ := (hf 1 _ rfl).trans (g 1 (by decide))
    have f2 : DataW.trod enc Try.prog W 0 (fun _ => true) true n' 3 (List.take (Try.prog.cellsOf 3) (List.drop 2 [c0, c1, c2, c3, c4, c5])) = some _ := (hf 2 _ rfl).trans (g 2 (by decide))
    have f3 : DataW.trod enc Try.prog W 0 (fun _ => true) true n' 3 (List.take (Try.prog.cellsOf 3) (List.drop 3 [c0, c1, c2, c3, c4, c5])) = some _ := (hf 3 _ rfl).trans (g 3 (by decide))
    have f4 : DataW.trod enc Try.prog W 0 (fun _ => true) true n' 5 (List.take (Try.prog.cellsOf 5) (List.drop 4 [c0, c1, c2, c3, c4, c5])) = some _ := (hf 4 _ rfl).trans (g 4 (by decide))
    have f5 : DataW.trod enc Try.prog W 0 (fun _ => true) true n' 36 (List.take (Try.prog.cellsOf 36) (List.drop 5 [c0, c1, c2, c3, c4, c5])) = some _ := (hf 5 _ rfl).trans (g 5 (by decide))
    simp only [Try.cellsInt, Try.cellsInts, Try.cellsU8, Try.cellsBytes6, List.drop_zero, List.drop_succ_cons, List.take_succ_cons, List.take_zero] at f0 f1 f2 f3 f4 f5
    obtain ⟨n0, e0, _, w0⟩ := DataW.trod_int Try.underlying3 f0
    obtain ⟨ba, bl, bc, bs, e1, hel⟩ := el_trod f1
    obtain ⟨n2, e2, _, w2⟩ := DataW.trod_int Try.underlying3 f2
    obtain ⟨n3, e3, _, w3⟩ := DataW.trod_int Try.underlying3 f3
    obtain ⟨n4, e4, _, w4⟩ := DataW.trod_int Try.underlying5 f4
    obtain ⟨kv, ks, e5, hks, hk8, hkn⟩ := ks_trod8 f5 (fun m hm => hw m (by
      rw [hxd]
      simp only [DataW.weights, Try.underlying38]
      exact DataW.weights_mem_each (j := 5) rfl (by rw [List.getElem?_map, g 5 (by decide)]; rfl) m hm))
    simp only [List.cons.injEq, and_true] at e0 e1 e2 e3 e4 e5
    have b4 := wf_u8 w4
    exact ⟨⟨n0, ba, bl, bc, bs, n2, n3, n4.toNat, kv, ks⟩, by rw [e0, e1, e2, e3, e4, e5, show ((n4.toNat : Nat) : Int) = n4 by omega], hel, hks, by show n4.toNat < 256; omega, wf_bounds w2, wf_bounds w0, wf_bounds w3, hk8, hkn⟩

theorem zacts_open {H : Type} {enc : TypeId × Value → H} {W : World} {base : Nat} {v : Value} {d : DataW H} {p : List MemPlace} (hv : Value.okWide Try.prog W .any base 22 v)
    (h : DataW.Trod enc Try.prog W 0 (fun _ => true) true 22 v d p) (hw : ∀ m ∈ d.weights Try.prog 22, m ≤ reachBytes) : ∃ l, Zcs W v l ∧ ∀ ac ∈ l, Zk8 ac := by
  obtain ⟨a1, len, cap, rfl⟩ := okWide_slice Try.underlying22 hv
  obtain ⟨fuel, hf⟩ := h
  rcases DataW.trod_slice Try.underlying22 hf with ⟨hcs, _⟩ | ⟨a, len', cap', elems, rest, n, _, hcs, hxd, _, hl, hm, hlen, hel, _⟩
  · simp [Value.cells] at hcs
    obtain ⟨rfl, rfl, rfl⟩ := hcs
    exact ⟨[], ⟨none, 0, rfl, by simp, fun h => absurd h (by simp)⟩, by simp⟩
  · simp [Value.cells] at hcs
    obtain ⟨rfl, rfl, rfl⟩ := hcs
    have hm' : cap ≤ 9223372036854775807 := by unfold maxLen at hm; omega
    obtain ⟨b, off, spot⟩ := a
    have hd : d = .slice (elems.map (·.1)) (rest.map (·.1)) := congrArg Prod.fst hxd
    have hwe : ∀ j, (hj : j < elems.length) → ∀ m ∈ elems[j].1.weights Try.prog 38, m ≤ reachBytes := fun j hj m hm => hw m (by
      rw [hd]
      simp only [DataW.weights, Try.underlying22]
      refine List.mem_cons_of_mem _ (List.mem_append.2 (Or.inl (weightsAll_mem (elems.map (·.1)) j (by simpa using hj) m ?_)))
      simpa using hm)
    have els : ∀ j, j < len → ∃ cs x, W.cells? 0 ((⟨b, off, spot⟩ : Addr).add (j * 6)) 6 = some cs ∧ DataW.trod enc Try.prog W 0 (fun _ => true) true n 38 cs = some x ∧ ∀ m ∈ x.1.weights Try.prog 38, m ≤ reachBytes := fun j hj => by
      have hE := hel j hj
      rw [Try.cellsZact, List.getElem?_eq_getElem (by omega)] at hE
      simp only [Option.bind_eq_some_iff] at hE
      obtain ⟨cs, hcs, ht⟩ := hE
      exact ⟨cs, _, hcs, ht, hwe j (by omega)⟩
    rcases Nat.eq_zero_or_pos len with rfl | hpos
    · exact ⟨[], ⟨some ⟨b, off, spot⟩, cap, rfl, by simp, fun h => absurd h (by simp)⟩, by simp⟩
    have hs : spot = none := by
      obtain ⟨cs, x, hcs, ht, hw8⟩ := els 0 hpos
      obtain ⟨_, hcl, hat⟩ := World.cells?_some hcs
      obtain ⟨ac, rfl, _⟩ := zact_cells ht hcl hw8
      have at0 := hat 0 (by decide)
      simpa [Addr.add] using World.cell?_spot at0
    subst hs
    have one : ∀ j, j < len → ∃ ac : Zc, ZcAt W b (off + j * 6) ac ∧ Zk8 ac := fun j hj => by
      obtain ⟨cs, x, hcs, ht, hw8⟩ := els j hj
      obtain ⟨_, hcl, hat⟩ := World.cells?_some hcs
      obtain ⟨ac, rfl, hel, hk, h8, hi, hkd, hlg, hk8⟩ := zact_cells ht hcl hw8
      have cell : ∀ k, k < 6 → W.cell? ⟨b, off + j * 6 + k, none⟩ = [Value.int .i64 ac.kind, .slice ac.ba ac.bl ac.bc, .int .i64 ac.i, .int .i64 ac.long, .int .u8 (ac.c : Int), ac.kv][k]? := fun k hk => by
        have := hat k hk
        rw [Addr.add_mid, Addr.add_mid] at this
        exact this
      exact ⟨ac, ⟨cell 0 (by decide), cell 1 (by decide), cell 2 (by decide), cell 3 (by decide), cell 4 (by decide), cell 5 (by decide), hel, hk, h8, hi, hkd, hlg⟩, hk8⟩
    have dflt : Zc := ⟨0, none, 0, 0, [], 0, 0, 0, .slice none 0 0, []⟩
    obtain ⟨f, hf1, hf2⟩ : ∃ f : Nat → Zc, (∀ j, j < len → ZcAt W b (off + j * 6) (f j)) ∧ ∀ j, j < len → Zk8 (f j) :=
      ⟨fun j => if h : j < len then Classical.choose (one j h) else dflt, fun j hj => by simp only [dif_pos hj]; exact (Classical.choose_spec (one j hj)).1, fun j hj => by simp only [dif_pos hj]; exact (Classical.choose_spec (one j hj)).2⟩
    refine ⟨(List.range len).map f, ⟨some ⟨b, off, none⟩, cap, by simp, by simp; omega, fun _ => ⟨b, off, rfl, fun j ac hj => ?_⟩⟩, fun ac hac => ?_⟩
    · have hjl : j < len := by
        have := (List.getElem?_eq_some_iff.1 hj).1
        simpa using this
      rw [List.getElem?_map, List.getElem?_range hjl] at hj
      simp only [Option.map_some, Option.some.injEq] at hj
      rw [← hj]
      exact hf1 j hjl
    · simp only [List.mem_map, List.mem_range] at hac
      obtain ⟨j, hj, rfl⟩ := hac
      exact hf2 j hj

end Go.Proofs.Ythbiibinmofmfaa

/- valiselaw12.few: are calls few, and their bytes? -/
namespace Go.Proofs.Ythbiibinmofmfaa
set_option maxRecDepth 100000
open Go.RowKit

/-- Calls are few, and their bytes. -/
def Few (l : List Zc) : Prop := l.length ≤ 12 ∧ ∀ ac ∈ l, ac.bl ≤ 3000

set_option maxRecDepth 100000 in
set_option maxHeartbeats 4000000 in
theorem few_true (w : World) (v : Value) (l : List Zc) (hl : Zcs w v l) (hf : Few l) :
    Calls Try.prog 4 #[v] w fun e w' => e = .returned (.bool true) ∧ Below w.heap.size w w' := by
  obtain ⟨a, cap, rfl, h9, hat⟩ := hl
  have HAT : Hid (∀ k, k < l.length → ∃ b off ac, a = some ⟨b, off, none⟩ ∧ ac.bl ≤ 3000 ∧ ∀ w', Below w.heap.size w w' → ZcAt w' b (off + k * 6) ac) := fun k hk => by
    obtain ⟨b, off, ha, hc⟩ := hat (by omega)
    exact ⟨b, off, l[k], ha, hf.2 _ (List.getElem_mem hk), fun w' hb => (hc k _ (List.getElem?_eq_getElem hk)).later hb⟩
  have h12 := hf.1
  generalize l.length = L at *
  have HB0 := Lib.hid (Below.refl w.heap.size w)
  clear hat hf h9
  go_enter Try.func4, Try.ntmps4
  go_wp2_with fail
  go_loopw [3] (fun s3 wr => ∃ i : Nat, s3 = .int .i64 (i : Int) ∧ i ≤ L ∧ Hid (Below w.heap.size w wr)) (fun s3 _ => L - (intOf s3).toNat)
  case atStart => exact ⟨0, by go_num, Nat.zero_le _, HB0⟩
  case round =>
    obtain ⟨i, rfl, hi, KB⟩ := hrel
    by_cases hlt : i < L
    · have j0 : decide ((i : Int) < (L : Int)) = true := decide_eq_true (by omega)
      have j1 : (0 : Int) ≤ (i : Int) := by omega
      have j2 : (i : Int) < (L : Int) := by omega
      have j3 : decide ((12 : Int) ≤ (i : Int)) = false := decide_eq_false (by omega)
      have j4 : (i : Int) ≤ 12 := by omega
      obtain ⟨b, off, ac, rfl, hb3, hc⟩ := HAT.out i hlt
      have f1 := (hc wr KB.out).bv
      have j5 : decide ((3000 : Int) < (ac.bl : Int)) = false := decide_eq_false (by omega)
      generalize ac.bl = bl at *
      generalize ac.ba = ba at *
      generalize ac.bc = bc at *
      clear hc HAT
      go_wp2_with fail
      go_round
      case rel => exact ⟨i + 1, by go_num, by omega, KB⟩
      case measure => simp [intOf]; omega
    · have j0 : decide ((i : Int) < (L : Int)) = false := decide_eq_false (by omega)
      go_wp2_with fail
      go_ret
      exact ⟨rfl, KB.out⟩

set_option maxRecDepth 100000 in
set_option maxHeartbeats 4000000 in
theorem few_false (w : World) (v : Value) (l : List Zc) (hl : Zcs w v l) (hf : ¬ Few l) :
    Calls Try.prog 4 #[v] w fun e w' => e = .returned (.bool false) ∧ Below w.heap.size w w' := by
  obtain ⟨a, cap, rfl, h9, hat⟩ := hl
  have HAT : Hid (∀ k, k < l.length → ∃ b off ac, l[k]? = some ac ∧ a = some ⟨b, off, none⟩ ∧ ∀ w', Below w.heap.size w w' → ZcAt w' b (off + k * 6) ac) := fun k hk => by
    obtain ⟨b, off, ha, hc⟩ := hat (by omega)
    exact ⟨b, off, l[k], List.getElem?_eq_getElem hk, ha, fun w' hb => (hc k _ (List.getElem?_eq_getElem hk)).later hb⟩
  have HNF : Hid (¬ (l.length ≤ 12 ∧ ∀ (k : Nat) (ac : Zc), l[k]? = some ac → ac.bl ≤ 3000)) := fun h => hf ⟨h.1, fun ac hac => by
    obtain ⟨k, hk, rfl⟩ := List.mem_iff_getElem.1 hac
    exact h.2 k _ (List.getElem?_eq_getElem hk)⟩
  have HLT : Hid (∀ (k : Nat) (ac : Zc), l[k]? = some ac → k < l.length) := fun k ac h => (List.getElem?_eq_some_iff.1 h).1
  generalize l.length = L at *
  have HB0 := Lib.hid (Below.refl w.heap.size w)
  have H0 : Hid (∀ (k : Nat) (ac : Zc), k < 0 → l[k]? = some ac → ac.bl ≤ 3000) := fun k ac h => absurd h (by omega)
  clear hat hf
  go_enter Try.func4, Try.ntmps4
  go_wp2_with fail
  go_loopw [3] (fun s3 wr => ∃ i : Nat, s3 = .int .i64 (i : Int) ∧ i ≤ L ∧ i ≤ 12 ∧ Hid (Below w.heap.size w wr) ∧ Hid (∀ (k : Nat) (ac : Zc), k < i → l[k]? = some ac → ac.bl ≤ 3000)) (fun s3 _ => L - (intOf s3).toNat)
  case atStart => exact ⟨0, by go_num, Nat.zero_le _, by omega, HB0, H0⟩
  case round =>
    obtain ⟨i, rfl, hi, hi2, KB, KF⟩ := hrel
    by_cases hlt : i < L
    · have j0 : decide ((i : Int) < (L : Int)) = true := decide_eq_true (by omega)
      have j1 : (0 : Int) ≤ (i : Int) := by omega
      have j2 : (i : Int) < (L : Int) := by omega
      have j4 : (i : Int) ≤ 12 := by omega
      obtain ⟨b, off, ac, hac, rfl, hc⟩ := HAT.out i hlt
      have f1 := (hc wr KB.out).bv
      by_cases h12 : 12 ≤ i
      · have j3 : decide ((12 : Int) ≤ (i : Int)) = true := decide_eq_true (by omega)
        clear hc HAT HNF HLT KF hac f1
        go_wp2_with fail
        go_ret
        exact ⟨rfl, KB.out⟩
      · have j3 : decide ((12 : Int) ≤ (i : Int)) = false := decide_eq_false (by omega)
        have HAC := Lib.hid hac
        by_cases hb3 : ac.bl ≤ 3000
        · have j5 : decide ((3000 : Int) < (ac.bl : Int)) = false := decide_eq_false (by omega)
          have KF' : Hid (∀ (k : Nat) (ac : Zc), k < i + 1 → l[k]? = some ac → ac.bl ≤ 3000) := fun k ac' h1 h2 => by
            by_cases e : k = i
            · subst e; rw [hac] at h2; cases h2; exact hb3
            · exact KF.out k ac' (by omega) h2
          clear hc HAT hac KF HNF HLT HAC hb3
          generalize ac.bl = bl at *
          generalize ac.ba = ba at *
          generalize ac.bc = bc at *
          go_wp2_with fail
          go_round
          case rel => exact ⟨i + 1, by go_num, by omega, by omega, KB, KF'⟩
          case measure => simp [intOf]; omega
        · have j5 : decide ((3000 : Int) < (ac.bl : Int)) = true := decide_eq_true (by omega)
          clear hc HAT hac KF HNF HLT HAC hb3
          generalize ac.bl = bl at *
          generalize ac.ba = ba at *
          generalize ac.bc = bc at *
          go_wp2_with fail
          go_ret
          exact ⟨rfl, KB.out⟩
    · exact absurd ⟨by omega, fun k ac h => KF.out k ac (by have := HLT.out k ac h; omega) h⟩ HNF.out
end Go.Proofs.Ythbiibinmofmfaa
