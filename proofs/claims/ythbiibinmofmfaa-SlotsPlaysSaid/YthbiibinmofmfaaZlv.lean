/- slots' Commit, refused or not. -/
import Derived.Test.YthbiibinmofmfaaZcom
import Derived.Test.YthbiibinmofmfaaZpow2

namespace Go.Proofs.Ythbiibinmofmfaa
set_option maxRecDepth 100000
open Go.RowKit

theorem commit_any (w : World) (S : Nat → Prop) (b : Nat) (d : Ek.Dk) (h : Dsk w S b d) (hS : ∀ k, S k → k < w.heap.size) (a : Option Addr) (len cap : Nat) (bs : List Nat) (hA : Arg w S a len cap bs) (hu : d.used + Sk.share d.n + 3 < 1000) : Calls Try.prog 10 #[.pointer (some ⟨b, 0, none⟩), .slice a len cap] w (DP w S b (Sk.commit d bs) (.int .i64 (Sk.commitE d bs))) := by
  by_cases hl : Sk.loadE d = 0
  · exact commit_good w S b d h hS a len cap bs hA hl hu
  · exact commit_refused w S b d h a len cap bs hl
end Go.Proofs.Ythbiibinmofmfaa

/- slots' calls on a disk in a law. -/
namespace Go.Proofs.Ythbiibinmofmfaa
set_option maxRecDepth 100000
open Go.RowKit

theorem lz_format {w0 w : World} {b : Nat} {d : Ek.Dk} {N : Nat} (h : Lv w0 w b d N) (hu : d.used ≤ 900) : Calls Try.prog 12 #[.pointer (some ⟨b, 0, none⟩)] w (LvP w0 b (Sk.format d) (.int .i64 (Sk.formatE d))) := by
  obtain ⟨S, hd, hS, hn, hb⟩ := h
  exact (format_any w S b d hd (fun k hk => Nat.lt_of_lt_of_le (hS k hk).2 hn) hu).mono fun e w' hp => LvP.of hS hn hb hp
theorem lz_load {w0 w : World} {b : Nat} {d : Ek.Dk} {N : Nat} (h : Lv w0 w b d N) : Calls Try.prog 18 #[.pointer (some ⟨b, 0, none⟩)] w (LoPost w d) := by
  obtain ⟨S, hd, _⟩ := h
  exact Load_any w S b d hd
theorem lz_commit {w0 w : World} {b : Nat} {d : Ek.Dk} {N : Nat} (h : Lv w0 w b d N) (a : Option Addr) (len cap : Nat) (bs : List Nat) (hs : Sl w (.slice a len cap) bs) (hc : len ≤ cap) (hg : 0 < len → ∀ g off spot, a = some ⟨g, off, spot⟩ → (g < w0.heap.size ∨ N ≤ g) ∧ g < w.heap.size) (hu : d.used + Sk.share d.n + 3 < 1000) :
    Calls Try.prog 10 #[.pointer (some ⟨b, 0, none⟩), .slice a len cap] w (LvP w0 b (Sk.commit d bs) (.int .i64 (Sk.commitE d bs))) := by
  obtain ⟨S, hd, hS, hn, hb⟩ := h
  refine (commit_any w S b d hd (fun k hk => Nat.lt_of_lt_of_le (hS k hk).2 hn) a len cap bs ⟨hs, hc, fun hp g off spot e => ⟨fun q => ?_, (hg hp g off spot e).2⟩⟩ hu).mono fun e w' hp => LvP.of hS hn hb hp
  have := hS g q
  rcases (hg hp g off spot e).1 with h | h
  · omega
  · omega
theorem Lv.nlt {w0 w : World} {b : Nat} {d : Ek.Dk} {N : Nat} (h : Lv w0 w b d N) : N ≤ w.heap.size := by
  obtain ⟨_, _, _, hn, _⟩ := h
  exact hn
set_option maxHeartbeats 1000000 in
theorem rroom_any (n : Int) (w : World) (hlo : -9223372036854775808 ≤ n) (hhi : n ≤ 9223372036854775807) : Calls Try.prog 23 #[.int .i64 n] w fun e w' => e = .returned (.int .i64 ((Sk.roomI n : Nat) : Int)) ∧ w = w' := by
  by_cases h1 : n < 3
  · have e : Sk.roomI n = 0 := by unfold Sk.roomI; rw [if_pos (Or.inl h1)]
    rw [e]
    have c1 : decide (n < 3) = true := decide_eq_true h1
    clear e h1
    go_enter Try.func23, Try.ntmps23
    go_wp2_with fail
    go_ret
    exact ⟨rfl, rfl⟩
  · by_cases h2 : 8192 < n
    · have e : Sk.roomI n = 0 := by unfold Sk.roomI; rw [if_pos (Or.inr h2)]
      rw [e]
      have c1 : decide (n < 3) = false := decide_eq_false h1
      have c2 : decide (8192 < n) = true := decide_eq_true h2
      clear e h1 h2
      go_enter Try.func23, Try.ntmps23
      go_wp2_with fail
      go_ret
      exact ⟨rfl, rfl⟩
    · obtain ⟨m, rfl⟩ : ∃ m : Nat, n = (m : Int) := ⟨n.toNat, by omega⟩
      have e : ((Sk.roomI (m : Int) : Nat) : Int) = min (((Sk.share m : Nat) : Int) * 512) 1048576 := by
        rw [Sk.roomI_nat]; unfold Sk.room; rw [if_neg (by omega)]; omega
      rw [e]
      have c1 : decide ((m : Int) < 3) = false := decide_eq_false h1
      have c2 : decide (8192 < (m : Int)) = false := decide_eq_false h2
      have hv : ((m : Int) - 1) / 2 = ((Sk.share m : Nat) : Int) := by unfold Sk.share; omega
      have hv2 : ((m : Int) - 1).tdiv 2 = ((Sk.share m : Nat) : Int) := by rw [Int.tdiv_eq_ediv_of_nonneg (by omega)]; exact hv
      have hb : Sk.share m ≤ 8192 := by unfold Sk.share; omega
      generalize Sk.share m = q at hv hv2 hb ⊢
      clear e h1 h2
      go_enter Try.func23, Try.ntmps23
      go_wp2_with fail
      go_ret
      exact ⟨by congr 2, rfl⟩
end Go.Proofs.Ythbiibinmofmfaa
