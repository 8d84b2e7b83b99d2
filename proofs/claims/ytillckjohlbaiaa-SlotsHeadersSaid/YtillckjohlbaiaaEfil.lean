/- Contract of valiselaw11.filled. -/
import Derived.Test.YtillckjohlbaiaaAppm

namespace Go.Proofs.Ytillckjohlbaiaa
set_option maxRecDepth 100000
open Go.RowKit

namespace Ek
/-- n bytes, each one more than the one ahead. -/
def fil (c n : Nat) : List Nat := (List.range n).map fun i => (c + i) % 256
theorem fil_length (c n : Nat) : (fil c n).length = n := by simp [fil]
theorem fil_small (c n : Nat) : ∀ x ∈ fil c n, x < 256 := by
  intro x hx
  simp only [fil, List.mem_map] at hx
  obtain ⟨i, _, rfl⟩ := hx
  omega
theorem fil_row (c : Nat) : Row (fil c 512) := ⟨fil_length c 512, fil_small c 512⟩
/-- How many bytes. -/
def fln (m : Int) : Nat := if -3 < m ∧ m < 3 then (512 + m).toNat else 512
theorem fln_le (m : Int) : 510 ≤ fln m ∧ fln m ≤ 514 := by unfold fln; split <;> omega
/-- The first k of n are filled. -/
def filTo (c k n : Nat) : List Nat := (List.range n).map fun i => if i < k then (c + i) % 256 else 0
theorem filTo_length (c k n : Nat) : (filTo c k n).length = n := by simp [filTo]
theorem filTo_zero (c n : Nat) : filTo c 0 n = List.replicate n 0 := by
  apply List.ext_getElem?
  intro i
  by_cases h : i < n
  · simp [filTo, h]
  · rw [List.getElem?_eq_none (by rw [filTo_length]; omega), List.getElem?_eq_none (by simp; omega)]
theorem filTo_full (c n : Nat) : filTo c n n = fil c n := by
  apply List.map_congr_left
  intro i hi
  rw [if_pos (by simpa using hi)]
theorem filTo_step (c k n : Nat) (hk : k < n) : (filTo c k n).set k ((c + k) % 256) = filTo c (k + 1) n := by
  apply List.ext_getElem?
  intro i
  rw [List.getElem?_set]
  by_cases h : k = i
  · subst h
    simp [filTo, hk]
  · rw [if_neg h]
    by_cases hi : i < n
    · simp only [filTo, List.getElem?_map, List.getElem?_range hi, Option.map_some]
      congr 1
      by_cases h2 : i < k
      · rw [if_pos h2, if_pos (by omega)]
      · rw [if_neg h2, if_neg (by omega)]
    · rw [List.getElem?_eq_none (by rw [filTo_length]; omega), List.getElem?_eq_none (by rw [filTo_length]; omega)]
end Ek

/-- A block that holds bytes. -/
def bytesAt (w : World) (g : Nat) (bs : List Nat) : Prop := Has w g (.cells (vb bs).toArray 5 (0, 0))

/-- What filled leaves. -/
def FilPost (w : World) (c : Nat) (n : Nat) (e : Ending) (w' : World) : Prop :=
  e = .returned (.slice (some ⟨w.heap.size, 0, none⟩) n n) ∧ bytesAt w' w.heap.size (Ek.fil c n) ∧ Below w.heap.size w w' ∧ w.heap.size < w'.heap.size

theorem made_bytes (n : Nat) : madeCells #[Value.int .u8 0] n = (vb (List.replicate n 0)).toArray := by
  apply Array.toList_inj.1
  rw [toList_madeCells_one]
  simp [vb]

set_option maxRecDepth 100000 in
set_option maxHeartbeats 4000000 in
theorem filled_len (w : World) (c n : Nat) (m : Int) (hn : n = Ek.fln m) : Calls Try.prog 47 #[.int .u8 (c : Int), .int .i64 m] w (FilPost w c n) := by
  have hb := Ek.fln_le m
  rw [← hn] at hb
  have hmk := run_make_row' (P := Try.prog) 22 5 (.int .u8 0) 1 Try.underlying22 Try.infoU8 rfl .i64 .i64 n (by omega) (by omega)
  have HG : Hid (Has (w.alloc (.cells (madeCells #[Value.int .u8 0] n) 5)) w.heap.size (.cells (vb (Ek.filTo c 0 n)).toArray 5 (0, 0))) := by
    show Has _ _ _
    rw [Ek.filTo_zero, ← made_bytes]; exact Has.new w _
  have HB := Lib.hid (below1 w (.cells (madeCells #[Value.int .u8 0] n) 5))
  have hs1 : (w.alloc (.cells (madeCells #[Value.int .u8 0] n) 5)).heap.size = w.heap.size + 1 := by simp
  obtain ⟨w1, hw1⟩ : ∃ w1, w1 = w.alloc (.cells (madeCells #[Value.int .u8 0] n) 5) := ⟨_, rfl⟩
  rw [← hw1] at HG HB hs1
  have HS1 := Lib.hid hs1
  clear hs1
  by_cases h1 : -3 < m ∧ m < 3
  · have e1 : decide (-3 < m) = true := decide_eq_true h1.1
    have e2 : decide (m < 3) = true := decide_eq_true h1.2
    have e3 : wrap64 (512 + m) = (n : Int) := by rw [IntWalk.wrap64_in _ (by omega), hn]; unfold Ek.fln; rw [if_pos h1]; omega
    have E3 : Value.int .i64 (wrap64 (512 + m)) = .int .i64 (n : Int) := by rw [e3]
    clear e3 h1 hn
    go_enter Try.func47, Try.ntmps47
    go_wp2_with fail
    rw [← hw1]
    clear hw1 hmk
    go_loopw [7] (fun s7 wr => ∃ k : Nat, s7 = .int .i64 (k : Int) ∧ k ≤ n ∧ Hid (Has wr w.heap.size (.cells (vb (Ek.filTo c k n)).toArray 5 (0, 0))) ∧ Hid (Below w.heap.size w wr)) (fun s _ => n - (intOf s).toNat)
    case atStart => exact ⟨0, by go_num, Nat.zero_le _, HG, HB⟩
    case round =>
      obtain ⟨k, rfl, hk, KG, KB⟩ := hrel
      by_cases hlt : k < n
      · have j0 : decide ((k : Int) < (n : Int)) = true := decide_eq_true (by omega)
        have hkl : k < (vb (Ek.filTo c k n)).toArray.size := by simp [vb_length, Ek.filTo_length, hlt]
        obtain ⟨old, hc1⟩ : ∃ old, wr.cell? ⟨w.heap.size, k, none⟩ = some old := ⟨_, by rw [KG.out.cell, Array.getElem?_eq_getElem hkl]⟩
        have hf1 := KG.out.free k
        have hv : Value.int .u8 (IntKind.u8.wrap ((c : Int) + IntKind.u8.wrap (k : Int))) = .int .u8 (((c + k) % 256 : Nat) : Int) := by
          rw [IntKind.wrap_u8, IntKind.wrap_u8]; congr 1; omega
        have hcast : ((c : Int) + (k : Int)) % 256 = (((c + k) % 256 : Nat) : Int) := by omega
        have KG2 : Hid (Has (wr.setCell ⟨w.heap.size, k, none⟩ (.int .u8 (((c : Int) + (k : Int)) % 256))) w.heap.size (.cells (vb (Ek.filTo c (k + 1) n)).toArray 5 (0, 0))) := by
          show Has _ _ _
          rw [hcast]
          have := KG.out.setSelf (i := k) (.int .u8 (((c + k) % 256 : Nat) : Int))
          rw [← Ek.filTo_step c k n hlt, vb_set]
          simpa using this
        have KB2 := Lib.hid (KB.out.setCell (p := ⟨w.heap.size, k, none⟩) (Nat.le_refl _) (.int .u8 (((c : Int) + (k : Int)) % 256)))
        clear hcast
        clear hkl
        go_wp2
        go_round
        case rel => exact ⟨k + 1, by go_num, by omega, KG2, KB2⟩
        case measure => simp [intOf]; omega
      · obtain rfl : k = n := by omega
        go_wp2
        go_ret
        have h := KG.out
        rw [Ek.filTo_full] at h
        exact ⟨rfl, h, KB.out, h.lt⟩
  · have hn5 : n = 512 := by rw [hn]; unfold Ek.fln; rw [if_neg h1]
    subst hn5
    have hmk2 : ∀ W, (Instr.makeSlice 22 (.int .i64 512) (.int .i64 512)).run Try.prog W = .ok (.slice (some ⟨W.heap.size, 0, none⟩) 512 512) (W.alloc (.cells (madeCells #[Value.int .u8 0] 512) 5)) := hmk
    clear hn hmk
    by_cases h2 : -3 < m
    · have e1 : decide (-3 < m) = true := decide_eq_true h2
      have e2 : decide (m < 3) = false := decide_eq_false (by omega)
      clear h1 h2
      go_enter Try.func47, Try.ntmps47
      go_wp2_with fail
      rw [← hw1]
      clear hw1 hmk2
      go_loopw [7] (fun s7 wr => ∃ k : Nat, s7 = .int .i64 (k : Int) ∧ k ≤ 512 ∧ Hid (Has wr w.heap.size (.cells (vb (Ek.filTo c k 512)).toArray 5 (0, 0))) ∧ Hid (Below w.heap.size w wr)) (fun s _ => 512 - (intOf s).toNat)
      case atStart => exact ⟨0, by go_num, Nat.zero_le _, HG, HB⟩
      case round =>
        obtain ⟨k, rfl, hk, KG, KB⟩ := hrel
        by_cases hlt : k < 512
        · have j0 : decide ((k : Int) < (512 : Int)) = true := decide_eq_true (by omega)
          have hkl : k < (vb (Ek.filTo c k 512)).toArray.size := by simp [vb_length, Ek.filTo_length, hlt]
          obtain ⟨old, hc1⟩ : ∃ old, wr.cell? ⟨w.heap.size, k, none⟩ = some old := ⟨_, by rw [KG.out.cell, Array.getElem?_eq_getElem hkl]⟩
          have hf1 := KG.out.free k
          have hv : Value.int .u8 (IntKind.u8.wrap ((c : Int) + IntKind.u8.wrap (k : Int))) = .int .u8 (((c + k) % 256 : Nat) : Int) := by
            rw [IntKind.wrap_u8, IntKind.wrap_u8]; congr 1; omega
          have hcast : ((c : Int) + (k : Int)) % 256 = (((c + k) % 256 : Nat) : Int) := by omega
          have KG2 : Hid (Has (wr.setCell ⟨w.heap.size, k, none⟩ (.int .u8 (((c : Int) + (k : Int)) % 256))) w.heap.size (.cells (vb (Ek.filTo c (k + 1) 512)).toArray 5 (0, 0))) := by
            show Has _ _ _
            rw [hcast]
            have := KG.out.setSelf (i := k) (.int .u8 (((c + k) % 256 : Nat) : Int))
            rw [← Ek.filTo_step c k 512 hlt, vb_set]
            simpa using this
          have KB2 := Lib.hid (KB.out.setCell (p := ⟨w.heap.size, k, none⟩) (Nat.le_refl _) (.int .u8 (((c : Int) + (k : Int)) % 256)))
          clear hcast
          clear hkl
          go_wp2
          go_round
          case rel => exact ⟨k + 1, by go_num, by omega, KG2, KB2⟩
          case measure => simp [intOf]; omega
        · obtain rfl : k = 512 := by omega
          go_wp2
          go_ret
          have h := KG.out
          rw [Ek.filTo_full] at h
          exact ⟨rfl, h, KB.out, h.lt⟩
    · have e1 : decide (-3 < m) = false := decide_eq_false h2
      clear h1 h2
      go_enter Try.func47, Try.ntmps47
      go_wp2_with fail
      rw [← hw1]
      clear hw1 hmk2
      go_loopw [7] (fun s7 wr => ∃ k : Nat, s7 = .int .i64 (k : Int) ∧ k ≤ 512 ∧ Hid (Has wr w.heap.size (.cells (vb (Ek.filTo c k 512)).toArray 5 (0, 0))) ∧ Hid (Below w.heap.size w wr)) (fun s _ => 512 - (intOf s).toNat)
      case atStart => exact ⟨0, by go_num, Nat.zero_le _, HG, HB⟩
      case round =>
        obtain ⟨k, rfl, hk, KG, KB⟩ := hrel
        by_cases hlt : k < 512
        · have j0 : decide ((k : Int) < (512 : Int)) = true := decide_eq_true (by omega)
          have hkl : k < (vb (Ek.filTo c k 512)).toArray.size := by simp [vb_length, Ek.filTo_length, hlt]
          obtain ⟨old, hc1⟩ : ∃ old, wr.cell? ⟨w.heap.size, k, none⟩ = some old := ⟨_, by rw [KG.out.cell, Array.getElem?_eq_getElem hkl]⟩
          have hf1 := KG.out.free k
          have hv : Value.int .u8 (IntKind.u8.wrap ((c : Int) + IntKind.u8.wrap (k : Int))) = .int .u8 (((c + k) % 256 : Nat) : Int) := by
            rw [IntKind.wrap_u8, IntKind.wrap_u8]; congr 1; omega
          have hcast : ((c : Int) + (k : Int)) % 256 = (((c + k) % 256 : Nat) : Int) := by omega
          have KG2 : Hid (Has (wr.setCell ⟨w.heap.size, k, none⟩ (.int .u8 (((c : Int) + (k : Int)) % 256))) w.heap.size (.cells (vb (Ek.filTo c (k + 1) 512)).toArray 5 (0, 0))) := by
            show Has _ _ _
            rw [hcast]
            have := KG.out.setSelf (i := k) (.int .u8 (((c + k) % 256 : Nat) : Int))
            rw [← Ek.filTo_step c k 512 hlt, vb_set]
            simpa using this
          have KB2 := Lib.hid (KB.out.setCell (p := ⟨w.heap.size, k, none⟩) (Nat.le_refl _) (.int .u8 (((c : Int) + (k : Int)) % 256)))
          clear hcast
          clear hkl
          go_wp2
          go_round
          case rel => exact ⟨k + 1, by go_num, by omega, KG2, KB2⟩
          case measure => simp [intOf]; omega
        · obtain rfl : k = 512 := by omega
          go_wp2
          go_ret
          have h := KG.out
          rw [Ek.filTo_full] at h
          exact ⟨rfl, h, KB.out, h.lt⟩
end Go.Proofs.Ytillckjohlbaiaa
