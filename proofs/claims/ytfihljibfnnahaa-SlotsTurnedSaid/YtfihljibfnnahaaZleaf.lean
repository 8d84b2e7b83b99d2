/- Contracts of slots' small calls: share, front, Room, check, put. -/
import Derived.Test.YtfihljibfnnahaaZplain
import Derived.Test.YtfihljibfnnahaaEnew
import Derived.Test.YtfihljibfnnahaaCmore
import Derived.Test.YtfihljibfnnahaaFget
import Derived.Lib.MinMax

namespace Go.Proofs.Ytfihljibfnnahaa
set_option maxRecDepth 100000
open Go.RowKit

set_option maxHeartbeats 1000000 in
theorem zshare_any (n : Nat) (h1 : 1 ≤ n) (h2 : n ≤ 8192) (w : World) : Calls Try.prog 60 #[.int .i64 (n : Int)] w fun e w' => e = .returned (.int .i64 ((Sk.share n : Nat) : Int)) ∧ w = w' := by
  have hv : ((n : Int) - 1) / 2 = ((Sk.share n : Nat) : Int) := by unfold Sk.share; omega
  have hv2 : ((n : Int) - 1).tdiv 2 = ((Sk.share n : Nat) : Int) := by rw [Int.tdiv_eq_ediv_of_nonneg (by omega)]; exact hv
  have hb : Sk.share n ≤ 8192 := by unfold Sk.share; omega
  generalize Sk.share n = q at hv hv2 hb
  go_enter Try.func60, Try.ntmps60
  go_wp2_with fail
  go_ret
  exact ⟨rfl, rfl⟩

set_option maxHeartbeats 1000000 in
theorem zfront_any (n slot : Nat) (h1 : 1 ≤ n) (h2 : n ≤ 8192) (hs : slot ≤ 1) (w : World) : Calls Try.prog 76 #[.int .i64 (n : Int), .int .i64 (slot : Int)] w fun e w' => e = .returned (.int .i64 ((Sk.front n slot : Nat) : Int)) ∧ w = w' := by
  have HS := Lib.hid (zshare_any n h1 h2)
  have hb : Sk.share n ≤ 8192 := by unfold Sk.share; omega
  have hf : 1 + (slot : Int) * ((Sk.share n : Nat) : Int) = ((Sk.front n slot : Nat) : Int) := by unfold Sk.front; push_cast; rfl
  have hf2 : Sk.front n slot ≤ 20000 := by
    unfold Sk.front
    have : slot * Sk.share n ≤ 1 * Sk.share n := Nat.mul_le_mul_right _ hs
    omega
  have hm : IntKind.i64.wrap ((slot : Int) * ((Sk.share n : Nat) : Int)) = ((Sk.front n slot : Nat) : Int) - 1 := by
    rw [IntKind.wrap_i64]; omega
  generalize Sk.front n slot = fr at hf hf2 hm
  generalize Sk.share n = q at HS hf hb hm
  clear hf
  go_enter Try.func76, Try.ntmps76
  go_wp2_with fail
  refine (HS.out w).mono ?_
  rintro e w' ⟨rfl, rfl⟩
  go_wp2_with fail
  go_ret
  exact ⟨by rw [show (1 : Int) + ((fr : Int) - 1) = (fr : Int) by omega]; rfl, rfl⟩

/-- The room of any number of sectors. -/
def Sk.roomI (n : Int) : Nat := if n < 3 ∨ 8192 < n then 0 else Sk.room n.toNat
theorem Sk.roomI_nat (n : Nat) : Sk.roomI (n : Int) = Sk.room n := by
  unfold Sk.roomI
  split
  · unfold Sk.room; rw [if_pos (by omega)]
  · rw [Int.toNat_natCast]
set_option maxHeartbeats 1000000 in
theorem zroom_any (n : Int) (w : World) : Calls Try.prog 36 #[.int .i64 n] w fun e w' => e = .returned (.int .i64 ((Sk.roomI n : Nat) : Int)) ∧ w = w' := by
  by_cases h1 : n < 3
  · have e : Sk.roomI n = 0 := by unfold Sk.roomI; rw [if_pos (Or.inl h1)]
    rw [e]
    have c1 : decide (n < 3) = true := decide_eq_true h1
    clear e h1
    go_enter Try.func36, Try.ntmps36
    go_wp2_with fail
    go_ret
    exact ⟨rfl, rfl⟩
  · by_cases h2 : 8192 < n
    · have e : Sk.roomI n = 0 := by unfold Sk.roomI; rw [if_pos (Or.inr h2)]
      rw [e]
      have c1 : decide (n < 3) = false := decide_eq_false h1
      have c2 : decide (8192 < n) = true := decide_eq_true h2
      clear e h1 h2
      go_enter Try.func36, Try.ntmps36
      go_wp2_with fail
      go_ret
      exact ⟨rfl, rfl⟩
    · obtain ⟨m, rfl⟩ : ∃ m : Nat, n = (m : Int) := ⟨n.toNat, by omega⟩
      have HS := Lib.hid (zshare_any m (by omega) (by omega))
      have hb : Sk.share m ≤ 8192 := by unfold Sk.share; omega
      have e : ((Sk.roomI (m : Int) : Nat) : Int) = min (512 * ((Sk.share m : Nat) : Int)) 1048576 := by
        rw [Sk.roomI_nat]; unfold Sk.room; rw [if_neg (by omega)]; omega
      rw [e]
      have c1 : decide ((m : Int) < 3) = false := decide_eq_false h1
      have c2 : decide (8192 < (m : Int)) = false := decide_eq_false h2
      generalize Sk.share m = q at HS hb
      clear e h1 h2
      go_enter Try.func36, Try.ntmps36
      go_wp2_with fail
      refine (HS.out w).mono ?_
      rintro e w' ⟨rfl, rfl⟩
      go_wp2_with fail
      go_ret
      exact ⟨by congr 2, rfl⟩

set_option maxHeartbeats 1000000 in
theorem check_any (w : World) (S : Nat → Prop) (b : Nat) (d : Ek.Dk) (h : Dsk w S b d) : Calls Try.prog 57 #[.pointer (some ⟨b, 0, none⟩)] w fun e w' => e = .returned (.int .i64 (if d.n < 3 then 7 else 0)) ∧ w = w' := by
  have HL := Lib.hid (len_any w S b d h)
  have h1 := h.ok.lo
  generalize d.n = n at HL h1
  clear h
  have c0 : ((n : Int) == 0) = false := by simp; omega
  by_cases h3 : n < 3
  · rw [if_pos h3]
    have c1 : decide ((n : Int) < 3) = true := decide_eq_true (by omega)
    clear h3 h1
    go_enter Try.func57, Try.ntmps57
    go_wp2_with fail
    refine HL.out.mono ?_
    rintro e w' ⟨rfl, rfl⟩
    go_wp2_with fail
    go_ret
    exact ⟨rfl, rfl⟩
  · rw [if_neg h3]
    have c1 : decide ((n : Int) < 3) = false := decide_eq_false (by omega)
    clear h3 h1
    go_enter Try.func57, Try.ntmps57
    go_wp2_with fail
    refine HL.out.mono ?_
    rintro e w' ⟨rfl, rfl⟩
    go_wp2_with fail
    go_ret
    exact ⟨rfl, rfl⟩
set_option maxHeartbeats 1000000 in
theorem nod_check {w : World} {v : Value} (h : NoD w v) : Calls Try.prog 57 #[v] w fun e w' => e = .returned (.int .i64 1) ∧ w = w' := by
  have HL := Lib.hid (nod_len h)
  clear h
  go_enter Try.func57, Try.ntmps57
  go_wp2_with fail
  refine HL.out.mono ?_
  rintro e w' ⟨rfl, rfl⟩
  go_wp2_with fail
  go_ret
  exact ⟨rfl, rfl⟩

set_option maxHeartbeats 1000000 in
theorem put_any (a : Option Addr) (len cap : Nat) (bs : List Nat) (n : Nat) (hn : n < 4294967296) (hc : len ≤ cap) (hl : len ≤ 1000) (w : World) (hs : Sl w (.slice a len cap) bs) :
    Calls Try.prog 89 #[.slice a len cap, .int .i64 (n : Int)] w fun e w' => ∃ a' cap', e = .returned (.slice a' (len + 4) cap') ∧ Mine w' w.heap.size a' (len + 4) cap' (bs ++ Sk.le4 n) ∧ Below w.heap.size w w' := by
  have HP := Lib.hid (put4_ok a len cap bs n hn hc (by omega) w hs)
  have H9 : Hid (Sk.le4 n = [n / 1 % 256, n / 256 % 256, n / 65536 % 256, n / 16777216 % 256]) := rfl
  rw [H9.out]
  clear hs H9
  go_enter Try.func89, Try.ntmps89
  go_wp2_with fail
  refine HP.out.mono ?_
  clear HP
  rintro e w' ⟨a', cap', rfl, hm, hb⟩
  have HM := Lib.hid hm
  have HB := Lib.hid hb
  clear hm hb
  go_wp2_with fail
  go_ret
  exact ⟨a', cap', rfl, HM.out, HB.out⟩
end Go.Proofs.Ytfihljibfnnahaa
