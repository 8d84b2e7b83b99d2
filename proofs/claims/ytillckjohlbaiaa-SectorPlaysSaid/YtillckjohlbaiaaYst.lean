/- A step of both disks, whatever it is. -/
import Derived.Test.YtillckjohlbaiaaYst1
import Derived.Test.YtillckjohlbaiaaYst2
import Derived.Test.YtillckjohlbaiaaYst3
import Derived.Test.YtillckjohlbaiaaYst4
import Derived.Test.YtillckjohlbaiaaYst5
import Derived.Test.YtillckjohlbaiaaYst6

namespace Go.Proofs.Ytillckjohlbaiaa
set_option maxRecDepth 100000
open Go.RowKit

namespace Ek
/-- What a call does. -/
def nx (d : Dk) (ac : Ac) : Dk := if ac.kind = 1 then write d ac.i (fil ac.c (fln ac.long)) else if ac.kind = 2 then sync d else if ac.kind = 3 then fuse d ac.i else if ac.kind = 4 then crash d (nth ac.keep) else d
theorem change_used' (d : Dk) : (change d).used = d.used := change_used d
theorem write_used (d : Dk) (i : Int) (bs : List Nat) : (write d i bs).used ≤ d.used + 1 := by
  unfold write
  split
  · omega
  · split
    · omega
    · rw [change_used]; exact Nat.le_refl _
theorem sync_used (d : Dk) : (sync d).used = d.used := by
  unfold sync
  split
  · show (change d).used = _; exact change_used d
  · exact change_used d
theorem nx_used (d : Dk) (ac : Ac) : (nx d ac).used ≤ d.used + 1 := by
  unfold nx
  split
  · exact write_used _ _ _
  · split
    · rw [sync_used]; omega
    · split
      · show d.used ≤ _; omega
      · split
        · show d.used ≤ _; omega
        · omega
end Ek

theorem step_any {w0 w : World} {b : Nat} {d : Ek.Dk} {v : Value} {E G F : Nat → Prop} (h : Bo w0 w b d v d E G F w) (hu : d.used ≤ 900) (ac : Ac) (hk : Ks w ac.kv ac.keep) (h8 : Ks8 ac) (hc : ac.c < 256) (hi : ac.i ≤ 9223372036854775807) :
    Calls Try.prog 17 #[.pointer (some ⟨b, 0, none⟩), v, .agg #[.int .i64 ac.kind, .int .i64 ac.i, .int .u8 (ac.c : Int), .int .i64 ac.long, ac.kv]] w (StP w0 F w (Ek.nx d ac)) := by
  obtain ⟨k, i, c, long, kv, ks⟩ := ac
  dsimp only at hk hc hi ⊢
  obtain ⟨ka, kc, e, _⟩ := id hk
  obtain ⟨h80, hkn⟩ := h8
  dsimp only at h80 hkn
  subst e
  have hkn' : ka = none → kc = 0 := fun e => by subst e; exact hkn _ _ rfl
  unfold Ek.nx
  dsimp only
  by_cases k1 : k = 1
  · rw [if_pos k1, k1]; exact step_1 h hu i long c hc ka ks.length kc
  rw [if_neg k1]
  by_cases k2 : k = 2
  · rw [if_pos k2, k2]; exact step_2 h hu i long c hc ka ks.length kc
  rw [if_neg k2]
  by_cases k3 : k = 3
  · rw [if_pos k3, k3]; exact step_3 h hu i long c hc ka ks.length kc hi
  rw [if_neg k3]
  by_cases k4 : k = 4
  · rw [if_pos k4, k4]; exact step_4 h hu i long c hc ka ks.length kc ks hk h80 hkn'
  rw [if_neg k4]
  by_cases k5 : k = 5
  · rw [k5]; exact step_5 h hu i long c hc ka ks.length kc
  · exact step_6 h hu k k1 k2 k3 k4 k5 i long c hc ka ks.length kc
end Go.Proofs.Ytillckjohlbaiaa
