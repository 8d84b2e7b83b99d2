/- Contract of the document's Same at numbers; what the document's examples are. -/
import Derived.Test.YtgffcffmhhdceaaHput2
import Derived.Test.YtgffcffmhhdceaaHrd2
namespace Go.Proofs.Ytgffcffmhhdceaa
open Go.RowKit

set_option maxHeartbeats 1000000 in
theorem rsame_any (a1 a2 : Option Addr) (n c1 c2 : Nat) (zs : List Int) (w : World) (hl : Hid (n = zs.length)) (hn : n ≤ 17592186044416)
    (h1 : Hid (0 < n → ∃ b off, a1 = some ⟨b, off, none⟩ ∧ ∀ i, i < n → w.cell? ⟨b, off + i, none⟩ = some (.int .i64 (zs[i]?.getD 0))))
    (h2 : Hid (0 < n → ∃ b off, a2 = some ⟨b, off, none⟩ ∧ ∀ i, i < n → w.cell? ⟨b, off + i, none⟩ = some (.int .i64 (zs[i]?.getD 0)))) :
    Calls Try.prog 15 #[.slice a1 n c1, .slice a2 n c2] w fun e w' => e = .returned (.bool true) ∧ Below w.heap.size w w' := by
  go_enter Try.func15, Try.ntmps15
  go_wp2
  go_loopw [5] (fun s5 wr => ∃ k q : Nat, k ≤ n ∧ s5 = .int .i64 k ∧ wr = w.drewN q) (fun s _ => n - (intOf s).toNat)
  case atStart => exact ⟨0, 0, Nat.zero_le _, rfl, rfl⟩
  case round =>
    obtain ⟨k, q, hk, rfl, rfl⟩ := hrel
    by_cases hlt : k < n
    · obtain ⟨b, off, rfl, hc⟩ := h1.out (by omega)
      obtain ⟨b', off', rfl, hc'⟩ := h2.out (by omega)
      have g1 := hc k hlt
      have g2 := hc' k hlt
      obtain ⟨z, hz⟩ : ∃ z, z = zs[k]?.getD 0 := ⟨_, rfl⟩
      rw [← hz] at g1 g2
      have e : (z != z) = false := by simp
      clear hc hc' hz
      go_wp2
      go_quiet (fail)
      go_wp2
      exact ⟨⟨k + 1, _, by omega, by go_num, rfl⟩, by simp [intOf]; omega⟩
    · obtain rfl : k = n := by omega
      go_wp2
      go_ret
      exact ⟨rfl, below_drewN (Below.refl _ _) q⟩

theorem zl_lit {w : World} {b n : Nat} {zs : List Int} {t : TypeId} {cs : Array Value} (h : Has w b (.cells cs t (0, 0))) (hc : cs = (zs.map (Value.int .i64)).toArray) (hn : n = zs.length) (h2 : n ≤ 17592186044416) : Zl w (.slice (some ⟨b, 0, none⟩) n n) zs := by
  subst hc
  refine ⟨_, n, n, rfl, hn, h2, fun h => by simp at h, fun _ => ⟨b, 0, rfl, h.lt, fun i hi => ?_⟩⟩
  rw [Nat.zero_add, h.cell]
  have : i < zs.length := by omega
  simp [this]

theorem ex_fit : Fit [2, 1, 3, 3] := by decide
theorem ex_codes : Hf.codes (nat [2, 1, 3, 3]) = [2, 0, 6, 7] := by decide
theorem ex_cw : cw (nat [2, 1, 3, 3]) 2 = [true, true, false] := by decide
theorem ex_new : newE [0, 1] = 0 := by decide
theorem ex_over : chk [1, 1, 1] = 11 := by decide
theorem ex_one (r : Nat × Nat × Int) (h : Hf.Rd (nat [0, 1]) [true] 0 0 r) : r = (0, 0, 13) := by
  refine Hf.rd_one h (.miss 0 (by omega) (by decide) ?_ ?_)
  · rintro k ⟨h1, h2, h3⟩
    have : (Hf.ordl (nat [0, 1])).length = 1 := by decide
    have hk : k = 0 := by omega
    subst hk
    revert h3; decide
  · rintro k ⟨h1, h2, h3⟩
    have : (Hf.ordl (nat [0, 1])).length = 1 := by decide
    have hk : k = 0 := by omega
    subst hk
    revert h3; decide
theorem ex_zero (r : Nat × Nat × Int) (h : Hf.Rd (nat [0, 1]) [false] 0 0 r) : r = (1, 1, 0) :=
  Hf.rd_one h (.hit 0 0 (by omega) (by decide) ⟨by decide, by decide, by decide⟩)
end Go.Proofs.Ytgffcffmhhdceaa
