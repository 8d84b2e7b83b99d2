import Derived.Test.YtckbhciehmokdaaGreatDoorDrng
import Derived.Defers
import Derived.Recover
import Derived.Deep.QuietTactic
namespace Go.Proofs.YtckbhciehmokdaaGreatDoor
set_option maxRecDepth 100000
set_option maxHeartbeats 8000000
open Go.RowKit
def Pan (c : Int) : List PanicEntry := [{ v := .iface 23 (.int .i64 c), recovered := false }]
theorem needInts_ok (v : Value) (w : World) : Calls Tryz.prog 118 #[v, .int .i64 0] w fun e w' => e = .returned v /\ w = w' := by
 go_enter Tryz.func118, Tryz.ntmps118
 go_wp2
 go_ret
 exact ⟨rfl, rfl⟩
theorem catch_idle (p : Addr) (w : World) :
  CallsD Tryz.prog 116 #[.pointer (some p)] .returning w fun e u' w' => e = .returned (.tuple #[]) /\ u' = .returning /\ w' = w := by
 refine callsD_of_wpS Tryz.func116 rfl fun c₀ cs hu => ?_
 apply wpS_seq
 apply wpS_region
 simp [wpOpsS, go_sem, recoverD, hu, Tryz.ntmps116, Exit.thenS, Array.replicate_succ, Array.replicate_zero]
 apply wpS_seq
 apply wpS_region
 simp [wpOpsS, go_sem, Exit.thenS]
 refine wpS_cond (t := false) (by simp [Act.eval]) ?_
 simp only [Bool.false_eq_true, if_false]
 refine wpS_of_wp (wp_skip ?_)
 cases c₀
 simp_all [bodyPostS, results, Tryz.results116]
theorem caught_ok (F : FuncId) (caps : Array Value) (w : World) (Q : World -> Prop) (hcall : ∀ args w, (callFunc F args).run Tryz.prog w = .ok (.enter F args) w)
  (hdo : Calls Tryz.prog F caps (w.alloc (.cells #[.int .i64 0] 23)) fun e w' => e = .returned (.tuple #[]) /\ Has w' w.heap.size (.cells #[.int .i64 0] 23 (0, 0)) /\ Q w') :
  Calls Tryz.prog 77 #[.func (.func F) #[] caps] w fun e w' => e = .returned (.int .i64 0) /\ ∃ w2, Q w2 /\ w' = w2.setCell ⟨w.heap.size, 0, none⟩ (.int .i64 0) := by
 have hmf : ∀ (fn : Fn) (first cap : Array Value) (w : World), (Instr.makeFunc fn first cap).run Tryz.prog w = .ok (.func fn first cap) w := fun _ _ _ _ => rfl
 have HD := LH hdo
 clear hdo
 go_enter_defers Tryz.func77, Tryz.ntmps77
 go_wp2_with fail
 refine HD.out.mono ?_
 clear HD
 rintro e w2 ⟨rfl, hx, hq⟩
 obtain ⟨c0, z0⟩ := hx.one
 have HQ := LH hq
 have HX := LH hx
 clear hx hq
 go_wp2
 refine leaves_cons (f := 116) (args := #[.pointer (some ⟨w.heap.size, 0, none⟩)]) (by simp) (by simp [go_sem]) ?_
 refine (catch_idle ⟨w.heap.size, 0, none⟩ _).mono ?_
 rintro e u' w'' ⟨rfl, rfl, rfl⟩
 have c1 := ((HX.out.setSelf (i := 0) (.int .i64 0))).cell 0
 simp at c1
 simp [Leaves, settle, results, Tryz.results77, go_sem, c1]
 exact ⟨w2, HQ.out, rfl⟩
end Go.Proofs.YtckbhciehmokdaaGreatDoor
namespace Go.Proofs.YtckbhciehmokdaaGreatDoor
set_option maxRecDepth 100000
set_option maxHeartbeats 8000000
open Go.RowKit
theorem shl_is (x b z : Nat) (hx : x <= 100000) (hb : b <= 20) (hz : z = x * 2 ^ b) : Value.int .i64 (wrap64 ((x : Int) * 2 ^ b)) = .int .i64 (z : Int) := by
 have h : (2 : Nat) ^ b <= 2 ^ 20 := Nat.pow_le_pow_right (by omega) hb
 have e : (x : Int) * 2 ^ b = (z : Int) := by rw [hz]; simp
 have h2 : z <= 100000 * 2 ^ 20 := by rw [hz]; exact Nat.mul_le_mul hx h
 rw [e]
 congr 1
 unfold wrap64
 omega
theorem pow_is (b : Nat) (hb : b <= 20) : Value.int .i64 (wrap64 (2 ^ b)) = .int .i64 ((2 ^ b : Nat) : Int) := by
 have h : (2 : Nat) ^ b <= 2 ^ 20 := Nat.pow_le_pow_right (by omega) hb
 have e : (2 : Int) ^ b = ((2 ^ b : Nat) : Int) := by simp
 rw [e]
 generalize (2 : Nat) ^ b = x at h
 congr 1
 unfold wrap64
 omega
end Go.Proofs.YtckbhciehmokdaaGreatDoor
