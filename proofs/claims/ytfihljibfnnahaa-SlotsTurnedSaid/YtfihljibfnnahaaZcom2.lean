/- slots' Commit, refused or not. -/
import Derived.Test.YtfihljibfnnahaaZcom

namespace Go.Proofs.Ytfihljibfnnahaa
set_option maxRecDepth 100000
open Go.RowKit

theorem commit_any (w : World) (S : Nat → Prop) (b : Nat) (d : Ek.Dk) (h : Dsk w S b d) (hS : ∀ k, S k → k < w.heap.size) (a : Option Addr) (len cap : Nat) (bs : List Nat) (hA : Arg w S a len cap bs) (hu : d.used + Sk.share d.n + 3 < 1000) : Calls Try.prog 26 #[.pointer (some ⟨b, 0, none⟩), .slice a len cap] w (DP w S b (Sk.commit d bs) (.int .i64 (Sk.commitE d bs))) := by
  by_cases hl : Sk.loadE d = 0
  · exact commit_good w S b d h hS a len cap bs hA hl hu
  · exact commit_refused w S b d h a len cap bs hl
end Go.Proofs.Ytfihljibfnnahaa
