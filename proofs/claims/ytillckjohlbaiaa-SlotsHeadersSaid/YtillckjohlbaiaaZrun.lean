/- Contract of slots' run: steps, one after the other, until one fails. -/
import Derived.Test.YtillckjohlbaiaaZstep

namespace Go.Proofs.Ytillckjohlbaiaa
set_option maxRecDepth 100000
open Go.RowKit

theorem Sl.same {w w' : World} {s : Value} {bs : List Nat} (h : Sl w s bs) (he : ∀ g off spot len cap, s = .slice (some ⟨g, off, spot⟩) len cap → w'.heap[g]? = w.heap[g]?) : Sl w' s bs := by
  obtain ⟨a, len, cap, e, h1, h2, h3, h4, h5⟩ := h
  refine ⟨a, len, cap, e, h1, h2, h3, h4, fun h0 => ?_⟩
  obtain ⟨b, off, rfl, hlt, hc⟩ := h5 h0
  have hb := he b off none len cap e
  refine ⟨b, off, rfl, ?_, fun i hi => (World.cell?_of_block (a := ⟨b, off + i, none⟩) hb).trans (hc i hi)⟩
  have e2 : w'.heap[b]? = some _ := hb.trans (Array.getElem?_eq_getElem hlt)
  exact (Array.getElem?_eq_some_iff.1 e2).1

/-- The function value v does the step x on the disk at b; what it reads lies in E. -/
def StAt (w : World) (E : Nat → Prop) (b : Nat) (v : Value) : Sk.Step → Prop
  | .sync => v = .func (.func 48) #[.pointer (some ⟨b, 0, none⟩)] #[]
  | .put i r => (∃ (p1 p2 p3 : Nat) (sa : Option Addr) (n cap : Nat) (p : List Nat), v = .func (.func 100) #[] #[.pointer (some ⟨p1, 0, none⟩), .pointer (some ⟨p2, 0, none⟩), .pointer (some ⟨p3, 0, none⟩)] ∧
        w.cell? ⟨p1, 0, none⟩ = some (.slice sa n cap) ∧ w.cell? ⟨p2, 0, none⟩ = some (.pointer (some ⟨b, 0, none⟩)) ∧ w.cell? ⟨p3, 0, none⟩ = some (.int .i64 (i : Int)) ∧ Sl w (.slice sa n cap) p ∧ p.length ≤ 512 ∧ r = Sk.padded p ∧ E p1 ∧ E p2 ∧ E p3 ∧
        ∀ g off spot len c, Value.slice sa n cap = .slice (some ⟨g, off, spot⟩) len c → E g) ∨
      (i = 0 ∧ ∃ p2 p5 : Nat, v = .func (.func 102) #[] #[.pointer (some ⟨p2, 0, none⟩), .pointer (some ⟨p5, 0, none⟩)] ∧ w.cell? ⟨p2, 0, none⟩ = some (.pointer (some ⟨b, 0, none⟩)) ∧ Has w p5 (.cells (vb r).toArray 157 (0, 0)) ∧ Row r ∧ E p2 ∧ E p5)
theorem StAt.keep {w w' : World} {E : Nat → Prop} {b : Nat} {v : Value} {x : Sk.Step} (h : StAt w E b v x) (he : ∀ k, E k → w'.heap[k]? = w.heap[k]?) : StAt w' E b v x := by
  cases x with
  | sync => exact h
  | put i r =>
    rcases h with ⟨p1, p2, p3, sa, n, cap, p, hv, h1, h2, h3, h4, h5, h6, e1, e2, e3, h7⟩ | ⟨h0, p2, p5, hv, h1, h2, h3, e1, e2⟩
    · exact Or.inl ⟨p1, p2, p3, sa, n, cap, p, hv, (World.cell?_of_block (a := ⟨p1, 0, none⟩) (he p1 e1)).trans h1, (World.cell?_of_block (a := ⟨p2, 0, none⟩) (he p2 e2)).trans h2, (World.cell?_of_block (a := ⟨p3, 0, none⟩) (he p3 e3)).trans h3,
        h4.same (fun g off spot len c e => he g (h7 g off spot len c e)), h5, h6, e1, e2, e3, h7⟩
    · exact Or.inr ⟨h0, p2, p5, hv, (World.cell?_of_block (a := ⟨p2, 0, none⟩) (he p2 e1)).trans h1, (he p5 e2).trans h2, h3, e1, e2⟩
theorem StAt.mono {w : World} {E E' : Nat → Prop} {b : Nat} {v : Value} {x : Sk.Step} (h : StAt w E b v x) (he : ∀ k, E k → E' k) : StAt w E' b v x := by
  cases x with
  | sync => exact h
  | put i r =>
    rcases h with ⟨p1, p2, p3, sa, n, cap, p, hv, h1, h2, h3, h4, h5, h6, e1, e2, e3, h7⟩ | ⟨h0, p2, p5, hv, h1, h2, h3, e1, e2⟩
    · exact Or.inl ⟨p1, p2, p3, sa, n, cap, p, hv, h1, h2, h3, h4, h5, h6, he _ e1, he _ e2, he _ e3, fun g off spot len c e => he g (h7 g off spot len c e)⟩
    · exact Or.inr ⟨h0, p2, p5, hv, h1, h2, h3, he _ e1, he _ e2⟩
/-- The values vs do the steps xs. -/
def StsAt (w : World) (E : Nat → Prop) (b : Nat) (vs : List Value) (xs : List Sk.Step) : Prop := vs.length = xs.length ∧ ∀ (i : Nat) (v : Value) (x : Sk.Step), vs[i]? = some v → xs[i]? = some x → StAt w E b v x
theorem StsAt.keep {w w' : World} {E : Nat → Prop} {b : Nat} {vs : List Value} {xs : List Sk.Step} (h : StsAt w E b vs xs) (he : ∀ k, E k → w'.heap[k]? = w.heap[k]?) : StsAt w' E b vs xs := ⟨h.1, fun i v x h1 h2 => (h.2 i v x h1 h2).keep he⟩
theorem StsAt.mono {w : World} {E E' : Nat → Prop} {b : Nat} {vs : List Value} {xs : List Sk.Step} (h : StsAt w E b vs xs) (he : ∀ k, E k → E' k) : StsAt w E' b vs xs := ⟨h.1, fun i v x h1 h2 => (h.2 i v x h1 h2).mono he⟩
theorem StsAt.append {w : World} {E : Nat → Prop} {b : Nat} {vs us : List Value} {xs ys : List Sk.Step} (h : StsAt w E b vs xs) (h' : StsAt w E b us ys) : StsAt w E b (vs ++ us) (xs ++ ys) := by
  refine ⟨by rw [List.length_append, List.length_append, h.1, h'.1], fun i v x h1 h2 => ?_⟩
  rw [List.getElem?_append] at h1 h2
  by_cases hi : i < vs.length
  · rw [if_pos hi] at h1; rw [if_pos (by rw [← h.1]; exact hi)] at h2; exact h.2 i v x h1 h2
  · rw [if_neg hi] at h1; rw [if_neg (by rw [← h.1]; exact hi)] at h2; rw [← h.1] at h2; exact h'.2 _ v x h1 h2
theorem StsAt.nil (w : World) (E : Nat → Prop) (b : Nat) : StsAt w E b [] [] := ⟨rfl, fun i v x h => by simp at h⟩
theorem StsAt.one {w : World} {E : Nat → Prop} {b : Nat} {v : Value} {x : Sk.Step} (h : StAt w E b v x) : StsAt w E b [v] [x] := ⟨rfl, fun i u y h1 h2 => by
  rcases i with _ | i
  · simp only [List.getElem?_cons_zero, Option.some.injEq] at h1 h2; subst h1 h2; exact h
  · simp at h1⟩

namespace Sk
theorem one_used (d : Ek.Dk) (x : Step) : (one d x).used ≤ d.used + 1 := by
  cases x with
  | put i r =>
    show (Ek.write d (i : Int) r).used ≤ _
    unfold Ek.write
    split
    · omega
    · split
      · omega
      · rw [Ek.change_used]; exact Nat.le_refl _
  | sync =>
    show (Ek.sync d).used ≤ _
    unfold Ek.sync
    split
    · show (Ek.change d).used ≤ _; rw [Ek.change_used]; omega
    · rw [Ek.change_used]; omega
theorem runs_used (d : Ek.Dk) (xs : List Step) : (runs d xs).used ≤ d.used + xs.length := by
  induction xs generalizing d with
  | nil => exact Nat.le_refl _
  | cons x xs ih =>
    simp only [runs, List.length_cons]
    have := one_used d x
    split
    · have := ih (one d x); omega
    · omega
theorem runs_one' (d : Ek.Dk) (x : Step) : runs d [x] = one d x := by simp only [runs]; split <;> rfl
theorem runsE_one' (d : Ek.Dk) (x : Step) : runsE d [x] = oneE d x := by
  simp only [runsE]; split
  · rename_i h; exact h.symm
  · rfl
theorem take_step {d : Ek.Dk} {xs : List Step} {k : Nat} {x : Step} (hx : xs[k]? = some x) (h0 : runsE d (xs.take k) = 0) : runsE d (xs.take (k + 1)) = oneE (runs d (xs.take k)) x ∧ runs d (xs.take (k + 1)) = one (runs d (xs.take k)) x := by
  have e : xs.take (k + 1) = xs.take k ++ [x] := by
    rw [List.take_add_one, hx]; rfl
  rw [e, runsE_append, runs_append, if_pos h0, if_pos h0, runs_one', runsE_one']
  exact ⟨rfl, rfl⟩
theorem stop_step {d : Ek.Dk} {xs : List Step} {k : Nat} {x : Step} (hx : xs[k]? = some x) (h0 : runsE d (xs.take k) = 0) (hz : oneE (runs d (xs.take k)) x ≠ 0) : runsE d xs = oneE (runs d (xs.take k)) x ∧ runs d xs = one (runs d (xs.take k)) x := by
  have hk := (List.getElem?_eq_some_iff.1 hx).1
  have hd : xs.drop k = x :: xs.drop (k + 1) := by
    rw [List.drop_eq_getElem_cons hk]
    congr 1
    exact (List.getElem?_eq_some_iff.1 hx).2
  have e : xs = xs.take k ++ (x :: xs.drop (k + 1)) := by rw [← hd, List.take_append_drop]
  have a := runsE_append d (xs.take k) (x :: xs.drop (k + 1))
  have b := runs_append d (xs.take k) (x :: xs.drop (k + 1))
  rw [← e, if_pos h0] at a b
  rw [a, b]
  simp only [runsE, runs]
  rw [if_neg hz, if_neg hz]
  exact ⟨rfl, rfl⟩
end Sk

/-- A step, whatever it is, called. -/
theorem stepv_any {w : World} {S E : Nat → Prop} {b : Nat} {d : Ek.Dk} {v : Value} {x : Sk.Step} (h : Dsk w S b d) (hS : ∀ k, S k → k < w.heap.size) (hE : ∀ k, E k → ¬ S k) (hst : StAt w E b v x) (hu : d.used < 1000) :
    ∃ (f : FuncId) (first caps : Array Value), v = .func (.func f) first caps ∧ (∀ W, (callFunc f (first ++ caps)).run Try.prog W = .ok (.enter f (first ++ caps)) W) ∧ Calls Try.prog f (first ++ caps) w (DP w S b (Sk.one d x) (.int .i64 (Sk.oneE d x))) := by
  cases x with
  | sync => exact ⟨_, _, _, hst, fun W => Try.call48 _ W, sync_any w S b d h (by omega)⟩
  | put i r =>
    rcases hst with ⟨p1, p2, p3, sa, n, cap, p, hv, h1, h2, h3, h4, h5, rfl, e1, e2, e3, h7⟩ | ⟨rfl, p2, p5, hv, h1, h2, h3, e1, e2⟩
    · exact ⟨_, _, _, hv, fun W => Try.call100 _ W, fillstep_any w S b d h hS p1 p2 p3 i sa n cap p h1 h2 h3 h4 h5 (by omega)⟩
    · exact ⟨_, _, _, hv, fun W => Try.call102 _ W, sealstep_any w S b d h p2 p5 r (hE p5 e2) h1 h2 h3 (by omega)⟩

set_option maxRecDepth 100000 in
set_option maxHeartbeats 4000000 in
theorem run_any (w : World) (S : Nat → Prop) (b : Nat) (d : Ek.Dk) (h : Dsk w S b d) (hS : ∀ k, S k → k < w.heap.size) (E : Nat → Prop) (hE : ∀ k, E k → ¬ S k ∧ k < w.heap.size) (g cap n : Nat) (vs : List Value) (xs : List Sk.Step)
    (hn : n = vs.length) (hg : E g) (hc : ∀ i v, vs[i]? = some v → w.cell? ⟨g, i, none⟩ = some v) (hst : StsAt w E b vs xs) (hu : d.used + xs.length < 1000) :
    Calls Try.prog 67 #[.slice (some ⟨g, 0, none⟩) n cap] w (DP w S b (Sk.runs d xs) (.int .i64 (Sk.runsE d xs))) := by
  have H0 : Hid (DP w S b (Sk.runs d (xs.take 0)) (.tuple #[]) (.returned (.tuple #[])) w) := by
    show DP _ _ _ _ _ _ _
    rw [List.take_zero]; exact dp_same h _
  have HNX : Hid (∀ (k : Nat) (wr : World), k < n → Sk.runsE d (xs.take k) = 0 → DP w S b (Sk.runs d (xs.take k)) (.tuple #[]) (.returned (.tuple #[])) wr → ∃ (f : FuncId) (first caps : Array Value) (x : Sk.Step), xs[k]? = some x ∧ wr.cell? ⟨g, k, none⟩ = some (.func (.func f) first caps) ∧ (∀ W, (callFunc f (first ++ caps)).run Try.prog W = .ok (.enter f (first ++ caps)) W) ∧ Calls Try.prog f (first ++ caps) wr (DP w S b (Sk.one (Sk.runs d (xs.take k)) x) (.int .i64 (Sk.oneE (Sk.runs d (xs.take k)) x)))) := fun k wr hk h0 hd => by
    obtain ⟨_, S', hd', ht, hs'⟩ := hd
    have hkv : k < vs.length := by omega
    have hkx : k < xs.length := by have := hst.1; omega
    have hT : ∀ q, E q → wr.heap[q]? = w.heap[q]? := fun q hq => ht.block q (hE q hq).2 (hE q hq).1
    have hus := Sk.runs_used d (xs.take k)
    have hul : (xs.take k).length ≤ xs.length := by rw [List.length_take]; omega
    have hSz : ∀ q, S' q → q < wr.heap.size := fun q hq => by
      have := ht.size
      rcases hs' q hq with h | h
      · have := hS q h; omega
      · exact h.2
    have hEn : ∀ q, E q → ¬ S' q := fun q hq hq' => by
      rcases hs' q hq' with h | h
      · exact (hE q hq).1 h
      · have := (hE q hq).2; omega
    obtain ⟨f, first, caps, e1, e0, e2⟩ := stepv_any hd' hSz hEn ((hst.2 k _ _ (List.getElem?_eq_getElem hkv) (List.getElem?_eq_getElem hkx)).keep hT) (by omega)
    refine ⟨f, first, caps, _, List.getElem?_eq_getElem hkx, ?_, e0, e2.mono fun e w' hp => hp.from ht hs'⟩
    rw [← e1]
    exact (World.cell?_of_block (a := ⟨g, k, none⟩) (hT g hg)).trans (hc k _ (List.getElem?_eq_getElem hkv))
  have hnx : n = xs.length := by have := hst.1; omega
  have HXL : Hid (xs.take n = xs) := by show _ = _; rw [hnx]; exact List.take_length
  have hn9 : n < 1000 := by omega
  clear h hS hE hg hc hst hn hu hnx
  go_enter Try.func67, Try.ntmps67
  go_wp2_with fail
  go_loopw [8] (fun s8 wr => ∃ k : Nat, s8 = .int .i64 (k : Int) ∧ k ≤ n ∧ Hid (Sk.runsE d (xs.take k) = 0) ∧ Hid (DP w S b (Sk.runs d (xs.take k)) (.tuple #[]) (.returned (.tuple #[])) wr)) (fun s8 _ => n - (intOf s8).toNat)
  case atStart => exact ⟨0, by go_num, Nat.zero_le _, by show _ = _; rw [List.take_zero]; rfl, H0⟩
  case round =>
    obtain ⟨k, rfl, hk, KE, KD⟩ := hrel
    by_cases hlt : k < n
    · obtain ⟨f, first, caps, x, hx, hcell, hcf, hcall⟩ := HNX.out k wr hlt KE.out KD.out
      have j0 : decide ((k : Int) < (n : Int)) = true := decide_eq_true (by omega)
      have j1 : (0 : Int) ≤ (k : Int) := by omega
      have HX := Lib.hid hx
      have HCALL := Lib.hid hcall
      have HT := Lib.hid (Sk.take_step hx KE.out)
      have HZ : Hid (Sk.oneE (Sk.runs d (xs.take k)) x ≠ 0 → Sk.runsE d xs = Sk.oneE (Sk.runs d (xs.take k)) x ∧ Sk.runs d xs = Sk.one (Sk.runs d (xs.take k)) x) := fun hz => Sk.stop_step hx KE.out hz
      clear hx hcall
      obtain ⟨OE, hOE⟩ : ∃ q, q = Sk.oneE (Sk.runs d (xs.take k)) x := ⟨_, rfl⟩
      have HOE := Lib.hid hOE
      rw [← hOE] at HCALL HT HZ
      clear hOE
      go_wp2_with fail
      refine HCALL.out.mono ?_
      clear HCALL
      rintro e w2 hq
      have he := hq.1
      subst he
      by_cases hz : OE = 0
      · subst hz
        have KE2 : Hid (Sk.runsE d (xs.take (k + 1)) = 0) := HT.out.1
        have KD2 : Hid (DP w S b (Sk.runs d (xs.take (k + 1))) (.tuple #[]) (.returned (.tuple #[])) w2) := by
          show DP _ _ _ _ _ _ _
          rw [HT.out.2]; exact ⟨rfl, hq.2⟩
        clear hq HT HZ HOE
        go_wp2_with fail
        go_round
        case rel => exact ⟨k + 1, by go_num, by omega, KE2, KD2⟩
        case measure => simp [intOf]; omega
      · have hb0 : (OE != 0) = true := by simpa using hz
        have HR : Hid (DP w S b (Sk.runs d xs) (.int .i64 (Sk.runsE d xs)) (.returned (.int .i64 OE)) w2) := by
          show DP _ _ _ _ _ _ _
          obtain ⟨a1, a2⟩ := HZ.out hz
          rw [a1, a2]; exact hq
        clear hq HT HZ HOE hz
        go_wp2_with fail
        go_ret
        exact HR.out
    · obtain rfl : k = n := by omega
      have j0 : decide ((k : Int) < (k : Int)) = false := decide_eq_false (by omega)
      have HR : Hid (DP w S b (Sk.runs d xs) (.int .i64 (Sk.runsE d xs)) (.returned (.int .i64 0)) wr) := by
        show DP _ _ _ _ _ _ _
        have a1 := KE.out
        have a2 := KD.out
        rw [HXL.out] at a1 a2
        rw [a1]; exact ⟨rfl, a2.2⟩
      clear KE KD HXL HNX hlt hk
      go_wp2_with fail
      go_ret
      exact HR.out
end Go.Proofs.Ytillckjohlbaiaa
