/- Contract of record.each: it tells the pointers of a list, one after the other. -/
import Derived.Test.YtillckjohlbaiaaNrng

namespace Go.Proofs.Ytillckjohlbaiaa
set_option maxRecDepth 100000
open Go.RowKit Go.Shelf

attribute [local go_sem] Oper.semAt_some

/-- What is told of the pointers ps, all of one width. -/
def pw (wd : Int) (ps : List Value) : List (Array Value) := ps.map fun p => #[p, .int .i64 wd]

set_option maxRecDepth 100000 in
set_option maxHeartbeats 2000000 in
theorem each_all (l B : Nat) (ps : List Value) (h9 : ps.length ≤ 9) (wd : Int) (g : Nat) (J : Nat → World → Prop) (i0 : Nat) (W : World) (hg : Has W g (.cells ps.toArray 143 (0, 0))) (hB : B ≤ g)
    (hY : ∀ (j : Nat) (p : Value), ps[j]? = some p → Goes Try.prog B l #[p, .int .i64 wd] (J (i0 + j)) (J (i0 + j + 1))) (h0 : J i0 W) :
    Calls Try.prog 80 #[.func (.yield l) #[] #[], .int .i64 wd, .slice (some ⟨g, 0, none⟩) ps.length ps.length] W fun e W' => e = .returned (.bool true) ∧ Up B W W' ∧ J (i0 + ps.length) W' := by
  obtain ⟨n, hn⟩ : ∃ n, n = ps.length := ⟨_, rfl⟩
  have HG := Lib.hid hg
  have HY := Lib.hid hY
  have HC : Hid (∀ k, k < n → ∃ p, ps[k]? = some p) := fun k hk => ⟨ps[k]'(by omega), by simp [List.getElem?_eq_getElem (show k < ps.length by omega)]⟩
  rw [← hn] at h9 ⊢
  have H0 := Lib.hid h0
  clear hY hg hn h0
  refine callsIn_wide (n := 9).1 ?_
  refine callsIn_of_wp Try.func80 rfl trivial ?_ rfl
  simp only [Try.ntmps80, List.size_toArray, List.length_cons, List.length_nil, Nat.reduceAdd, Nat.reduceSub, Array.replicate_succ, Array.replicate_zero, List.push_toArray, List.append_toArray, List.nil_append, List.cons_append]
  gi_wp2
  gi_loopw [8, 11] (fun _ s11 wr => ∃ k : Nat, k ≤ n ∧ s11 = .int .i64 (k : Int) ∧ Hid (J (i0 + k) wr) ∧ Hid (Up B W wr)) (fun _ s11 _ => n - (intOf s11).toNat)
  case atStart => exact ⟨0, Nat.zero_le _, rfl, H0, Up.refl _ _⟩
  case round =>
    obtain ⟨k, hk, rfl, KJ, KU⟩ := hrel
    by_cases hlt : k < n
    · obtain ⟨p, hp⟩ := HC.out k hlt
      have hcx : wr.cell? ⟨g, k, none⟩ = some p := by
        rw [(KU.out.has HG.out hB).cell, List.getElem?_toArray]; exact hp
      obtain ⟨fn, tmps, assign, body, hy, hR⟩ := HY.out k p hp wr KJ.out (Nat.le_trans (Nat.le_trans hB (Nat.le_of_lt HG.out.lt)) KU.out.size)
      clear hp
      gi_wp2
      refine (roundIn_wide hR).mono ?_
      rintro e W3 ⟨rfl, hu3, hj3⟩
      have KJ3 := Lib.hid hj3
      have KU3 := Lib.hid (KU.out.trans hu3)
      clear hu3 hj3 hy
      gi_wp2
      go_roundw
      case rel => exact ⟨k + 1, by omega, by simp, KJ3, KU3⟩
      case measure => simp [intOf]; omega
    · obtain rfl : k = n := by omega
      gi_wp2
      go_ret
      exact ⟨rfl, KU.out, KJ.out⟩
set_option maxRecDepth 100000 in
set_option maxHeartbeats 2000000 in
theorem each_stop (l B : Nat) (ps : List Value) (h9 : ps.length ≤ 9) (wd : Int) (g : Nat) (J : Nat → World → Prop) (Jx : World → Prop) (i0 s : Nat) (hs : s < ps.length) (W : World) (hg : Has W g (.cells ps.toArray 143 (0, 0))) (hB : B ≤ g)
    (hY : ∀ (j : Nat) (p : Value), j < s → ps[j]? = some p → Goes Try.prog B l #[p, .int .i64 wd] (J (i0 + j)) (J (i0 + j + 1))) (hX : ∀ (p : Value), ps[s]? = some p → Stops Try.prog B l #[p, .int .i64 wd] (J (i0 + s)) Jx) (h0 : J i0 W) :
    Calls Try.prog 80 #[.func (.yield l) #[] #[], .int .i64 wd, .slice (some ⟨g, 0, none⟩) ps.length ps.length] W fun e W' => e = .returned (.bool false) ∧ Up B W W' ∧ Jx W' := by
  obtain ⟨n, hn⟩ : ∃ n, n = ps.length := ⟨_, rfl⟩
  have HG := Lib.hid hg
  have HY := Lib.hid hY
  have HX := Lib.hid hX
  have HC : Hid (∀ k, k < n → ∃ p, ps[k]? = some p) := fun k hk => ⟨ps[k]'(by omega), by simp [List.getElem?_eq_getElem (show k < ps.length by omega)]⟩
  rw [← hn] at h9 hs ⊢
  have H0 := Lib.hid h0
  clear hY hX hg hn h0
  refine callsIn_wide (n := 9).1 ?_
  refine callsIn_of_wp Try.func80 rfl trivial ?_ rfl
  simp only [Try.ntmps80, List.size_toArray, List.length_cons, List.length_nil, Nat.reduceAdd, Nat.reduceSub, Array.replicate_succ, Array.replicate_zero, List.push_toArray, List.append_toArray, List.nil_append, List.cons_append]
  gi_wp2
  gi_loopw [8, 11] (fun _ s11 wr => ∃ k : Nat, k ≤ s ∧ s11 = .int .i64 (k : Int) ∧ Hid (J (i0 + k) wr) ∧ Hid (Up B W wr)) (fun _ s11 _ => n - (intOf s11).toNat)
  case atStart => exact ⟨0, Nat.zero_le _, rfl, H0, Up.refl _ _⟩
  case round =>
    obtain ⟨k, hk, rfl, KJ, KU⟩ := hrel
    have hkn : k < n := by omega
    obtain ⟨p, hp⟩ := HC.out k hkn
    by_cases hlt : k < s
    · skip
      have hcx : wr.cell? ⟨g, k, none⟩ = some p := by
        rw [(KU.out.has HG.out hB).cell, List.getElem?_toArray]; exact hp
      obtain ⟨fn, tmps, assign, body, hy, hR⟩ := HY.out k p hlt hp wr KJ.out (Nat.le_trans (Nat.le_trans hB (Nat.le_of_lt HG.out.lt)) KU.out.size)
      clear hp
      gi_wp2
      refine (roundIn_wide hR).mono ?_
      rintro e W3 ⟨rfl, hu3, hj3⟩
      have KJ3 := Lib.hid hj3
      have KU3 := Lib.hid (KU.out.trans hu3)
      clear hu3 hj3 hy
      gi_wp2
      go_roundw
      case rel => exact ⟨k + 1, by omega, by simp, KJ3, KU3⟩
      case measure => simp [intOf]; omega
    · obtain rfl : k = s := by omega
      have hcx : wr.cell? ⟨g, k, none⟩ = some p := by
        rw [(KU.out.has HG.out hB).cell, List.getElem?_toArray]; exact hp
      obtain ⟨fn, tmps, assign, body, hy, hR⟩ := HX.out p hp wr KJ.out (Nat.le_trans (Nat.le_trans hB (Nat.le_of_lt HG.out.lt)) KU.out.size)
      clear hp
      gi_wp2
      refine (roundIn_wide hR).mono ?_
      rintro e W3 ⟨rfl, hu3, hj3⟩
      have KJ3 := Lib.hid hj3
      have KU3 := Lib.hid (KU.out.trans hu3)
      clear hu3 hj3 hy
      gi_wp2
      go_ret
      exact ⟨rfl, KU3.out, KJ3.out⟩
end Go.Proofs.Ytillckjohlbaiaa
