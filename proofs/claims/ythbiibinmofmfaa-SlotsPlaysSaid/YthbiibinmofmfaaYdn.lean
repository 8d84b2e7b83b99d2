/- New of the document's own disk. -/
import Derived.Test.YthbiibinmofmfaaYdy
import Derived.Test.YthbiibinmofmfaaEeach2

namespace Go.Proofs.Ythbiibinmofmfaa
set_option maxRecDepth 100000
open Go.RowKit

set_option maxRecDepth 100000 in
set_option maxHeartbeats 4000000 in
theorem rdisk_new (w : World) (n : Nat) (h1 : 1 ≤ n) (h8 : n ≤ 8192) :
    Calls Try.prog 7 #[.int .i64 (n : Int)] w fun e w' => (∃ v', e = .returned (.tuple #[v', .int .i64 0]) ∧ DDk w' (fun q => w.heap.size ≤ q) v' (Ek.fresh n)) ∧ Below w.heap.size w w' := by
  have c1 : decide ((n : Int) < 1) = false := decide_eq_false (by omega)
  have c2 : decide ((8192 : Int) < (n : Int)) = false := decide_eq_false (by omega)
  obtain ⟨OBJ, hO⟩ : ∃ O, O = Obj.cells (madeCells #[Value.int .u8 0] 512) 5 := ⟨_, rfl⟩
  have hmk := run_make_row' (P := Try.prog) 35 5 (.int .u8 0) 1 Try.underlying35 Try.infoU8 rfl .i64 .i64 512 (by omega) (by omega)
  rw [show ((512 : Nat) : Int) = 512 from rfl, ← hO] at hmk
  have HZ : Hid (∀ W : World, Has (W.alloc OBJ) W.heap.size (.cells (vb zrow).toArray 5 (0, 0))) := fun W => by
    have := Has.new W OBJ
    rw [hO, made_bytes] at this
    rw [hO, made_bytes]; exact this
  obtain ⟨ZS, hZS⟩ : ∃ S, S = strB zrow := ⟨_, rfl⟩
  have HZS := Lib.hid hZS
  have HN := Lib.hid h1
  have HN8 := Lib.hid h8
  have hZ0 := (Has.new w (.cells #[.slice none 0 0, .slice none 0 0, .int .i64 0, .bool false] 32)).later (below1 _ (.cells #[.slice none 0 0, .slice none 0 0, .int .i64 (-1), .bool false] 32))
  have hX0 := Has.new (w.alloc (.cells #[.slice none 0 0, .slice none 0 0, .int .i64 0, .bool false] 32)) (.cells #[.slice none 0 0, .slice none 0 0, .int .i64 (-1), .bool false] 32)
  have hs0 : (w.alloc (.cells #[.slice none 0 0, .slice none 0 0, .int .i64 0, .bool false] 32)).heap.size = w.heap.size + 1 := by simp
  rw [hs0] at hX0
  have hB0 : Below w.heap.size w ((w.alloc (.cells #[.slice none 0 0, .slice none 0 0, .int .i64 0, .bool false] 32)).alloc (.cells #[.slice none 0 0, .slice none 0 0, .int .i64 (-1), .bool false] 32)) := (below1 w _).trans ((below1 _ _).mono (by simp))
  have KZ0 := Lib.hid hZ0
  have KX0 := Lib.hid hX0
  have KB0 := Lib.hid hB0
  have KO0 : Hid (((w.alloc (.cells #[.slice none 0 0, .slice none 0 0, .int .i64 0, .bool false] 32)).alloc (.cells #[.slice none 0 0, .slice none 0 0, .int .i64 (-1), .bool false] 32)).ownsRow (w.heap.size + 2) 9 1 (.slice none 0 0) 0 (vstr (List.replicate 0 ZS))) := ⟨rfl, Or.inl ⟨rfl, rfl⟩⟩
  clear hZ0 hX0 hB0 hs0 hO hZS h1 h8
  go_enter Try.func7, Try.ntmps7
  go_wp2_with fail
  generalize (w.alloc (.cells #[.slice none 0 0, .slice none 0 0, .int .i64 0, .bool false] 32)).alloc (.cells #[.slice none 0 0, .slice none 0 0, .int .i64 (-1), .bool false] 32) = wb at KZ0 KX0 KB0 KO0 ⊢
  go_loopw [5] (fun s5 wr => ∃ (k : Nat) (oa : Option Addr) (oc : Nat), s5 = .int .i64 (k : Int) ∧ k ≤ n ∧ Hid (wr.ownsRow (w.heap.size + 2) 9 1 (.slice oa k oc) k (vstr (List.replicate k ZS))) ∧ Hid (Has wr (w.heap.size + 1) (.cells #[.slice oa k oc, .slice none 0 0, .int .i64 (-1), .bool false] 32)) ∧ Hid (Has wr w.heap.size (.cells #[.slice none 0 0, .slice none 0 0, .int .i64 0, .bool false] 32)) ∧ Hid (Below w.heap.size w wr)) (fun s5 _ => n - (intOf s5).toNat)
  case atStart => exact ⟨0, none, 0, by go_num, Nat.zero_le _, KO0, KX0, KZ0, KB0⟩
  case round =>
    obtain ⟨k, oa, oc, rfl, hk, KO, KX, KZ, KB⟩ := hrel
    by_cases hlt : k < n
    · have j0 : decide ((k : Int) < (n : Int)) = true := decide_eq_true (by omega)
      have j1 : (0 : Int) ≤ (k : Int) := by omega
      have j2 : (k : Int) ≤ 8192 := by have := HN8.out; omega
      have hx1 := KX.out.later (below1 wr OBJ)
      have hx2 := hx1.later (below1 _ (.cells #[.string ZS] 9))
      have xa : wr.cell? ⟨w.heap.size + 1, 0, none⟩ = some (.slice oa k oc) := KX.out.cell 0
      have xb : (wr.alloc OBJ).cell? ⟨w.heap.size + 1, 0, none⟩ = some (.slice oa k oc) := hx1.cell 0
      have xc : ((wr.alloc OBJ).alloc (.cells #[.string ZS] 9)).cell? ⟨w.heap.size + 1, 0, none⟩ = some (.slice oa k oc) := hx2.cell 0
      have hbs : w.heap.size + 2 ≤ wr.heap.size := by have := KX.out.lt; omega
      have hcv : (convert 35 9 (.slice (some ⟨wr.heap.size, 0, none⟩) 512 512)).run Try.prog (wr.alloc OBJ).drew = .ok (.string ZS) (wr.alloc OBJ).drew :=
        string_of (wr.alloc OBJ).drew (some ⟨wr.heap.size, 0, none⟩) 512 512 _ ZS (has_sl (show Has (wr.alloc OBJ).drew wr.heap.size (.cells (vb zrow).toArray 5 (0, 0)) from HZ.out wr) zrow_row.2 (by rw [zrow_row.1]; decide) 512 512 zrow_row.1.symm) HZS.out
      have hb2 : Below wr.heap.size wr ((wr.alloc OBJ).alloc (.cells #[.string ZS] 9)).drew := below_drewN ((below1 wr OBJ).trans ((below1 _ _).mono (by simp))) 1
      have ho2 := own_same KO.out (w' := ((wr.alloc OBJ).alloc (.cells #[.string ZS] 9)).drew) (fun q hq => hb2.block q (KO.out.lt q hq).2)
      have hs1 : (wr.alloc OBJ).heap.size = wr.heap.size + 1 := by simp
      have hnew : Has ((wr.alloc OBJ).alloc (.cells #[.string ZS] 9)).drew (wr.alloc OBJ).heap.size (.cells #[.string ZS] 9 (0, 0)) := Has.new (wr.alloc OBJ) (.cells #[.string ZS] 9)
      obtain ⟨v', w5, hrun, ho5, hg5⟩ := append_str (l := List.replicate k ZS) (by rw [List.length_replicate]; exact ho2) ZS (by rw [List.length_replicate]; omega) _ hnew (by have := hb2.size; omega)
      rw [List.length_append, List.length_replicate, List.length_singleton, ← List.replicate_succ'] at ho5
      obtain ⟨va, vc, rfl, _⟩ := own_len ho5
      rw [hs1] at hrun
      have HRUN := Lib.hid hrun
      have hxd : Has ((wr.alloc OBJ).alloc (.cells #[.string ZS] 9)).drew (w.heap.size + 1) (.cells #[.slice oa k oc, .slice none 0 0, .int .i64 (-1), .bool false] 32) := hx2
      have hzd : Has ((wr.alloc OBJ).alloc (.cells #[.string ZS] 9)).drew w.heap.size (.cells #[.slice none 0 0, .slice none 0 0, .int .i64 0, .bool false] 32) := KZ.out.later hb2
      have hown := fun q e => (ho2.lt q e).1
      have hx5 := hxd.grown hg5 (fun e => by have := hown _ e.symm; omega)
      have hz5 := hzd.grown hg5 (fun e => by have := hown _ e.symm; omega)
      have HWD : Hid (Below w.heap.size w wr.drew) := below_drewN KB.out 1
      have HW1 : Hid (Below w.heap.size w (wr.alloc OBJ).drew) := below_drewN (KB.out.trans ((below1 wr OBJ).mono KB.out.size)) 1
      have HW2 : Hid (Below w.heap.size w ((wr.alloc OBJ).alloc (.cells #[.string ZS] 9)).drew) := KB.out.trans (hb2.mono KB.out.size)
      have HW5 : Hid (Below w.heap.size w w5) := HW2.out.grown hg5 HW2.out.size (fun q e => by have := hown q e; omega)
      have HW6 : Hid (Below w.heap.size w (w5.setCell ⟨w.heap.size + 1, 0, none⟩ (.slice va (k + 1) vc))) := HW5.out.setCell (p := ⟨w.heap.size + 1, 0, none⟩) (by show w.heap.size ≤ w.heap.size + 1; omega) _
      have KX2 : Hid (Has (w5.setCell ⟨w.heap.size + 1, 0, none⟩ (.slice va (k + 1) vc)) (w.heap.size + 1) (.cells #[.slice va (k + 1) vc, .slice none 0 0, .int .i64 (-1), .bool false] 32)) := hx5.setSelf (i := 0) (.slice va (k + 1) vc)
      have KZ2 : Hid (Has (w5.setCell ⟨w.heap.size + 1, 0, none⟩ (.slice va (k + 1) vc)) w.heap.size (.cells #[.slice none 0 0, .slice none 0 0, .int .i64 0, .bool false] 32)) := hz5.set (a := ⟨w.heap.size + 1, 0, none⟩) (by show w.heap.size ≠ w.heap.size + 1; omega) _
      have KO2 : Hid ((w5.setCell ⟨w.heap.size + 1, 0, none⟩ (.slice va (k + 1) vc)).ownsRow (w.heap.size + 2) 9 1 (.slice va (k + 1) vc) (k + 1) (vstr (List.replicate (k + 1) ZS))) := own_same ho5 (fun q hq => Below.heap_setCell _ _ _ _ (by have := (ho5.lt q hq).1; show q ≠ w.heap.size + 1; omega))
      have KB2 := HW6
      have y0 : w5.cell? ⟨w.heap.size + 1, 0, none⟩ = some (.slice oa k oc) := hx5.cell 0
      have yf := hx5.free 0
      clear hx1 hx2 hbs hb2 ho2 hs1 hnew hrun ho5 hg5 hxd hzd hown hx5 hz5
      go_wp2_with fail
      refine wp_region_held_drew (S := fun wx => Below w.heap.size w wx) (by kernel_rfl) HWD.out (fun _ => ?_)
      change wpAnyH _ _ _ _ _ 8 (Array.replicate 8 false) _ _
      refine wpAnyH_take (i := 0) (v := ?_) rfl (by kernel_rfl) (by kernel_rfl) (by kernel_rfl) (fun _ _ _ h => h) (Or.inl ⟨rfl, ?hy0⟩) HWD.out ?_
      case hy0 => intro w' hw'; clear hw'; go_simp; first | done | rfl
      try simp only [Act.put, List.getElem_toArray, List.getElem_cons_zero, List.setIfInBounds_toArray, List.set_cons_zero, List.set_cons_succ]
      refine wpAnyH_ready (rs := [1, 2]) (by kernel_rfl) (by simp) ?_
      refine AllReadyH.cons rfl (fun K hK => ?_) (AllReadyH.cons rfl (fun K hK => ?_) AllReadyH.nil)
      · go_simp
        refine hK.out _ _ HWD.out (fun _ => ?_)
        clear hK K
        try simp only [Act.put, List.getElem_toArray, List.getElem_cons_zero, List.getElem_cons_succ, List.setIfInBounds_toArray, List.set_cons_zero, List.set_cons_succ]
        refine wpAnyH_ready (rs := [2]) (by kernel_rfl) (by simp) ?_
        refine AllReadyH.cons rfl (fun K hK => ?_) AllReadyH.nil
        go_simp
        refine hK.out _ _ HW1.out (fun _ => ?_)
        clear hK K
        try simp only [Act.put, List.getElem_toArray, List.getElem_cons_zero, List.getElem_cons_succ, List.setIfInBounds_toArray, List.set_cons_zero, List.set_cons_succ]
        refine wpAnyH_ready (rs := [3]) (by kernel_rfl) (by simp) ?_
        refine AllReadyH.cons rfl (fun K hK => ?_) AllReadyH.nil
        go_simp
        refine hK.out _ _ HW1.out (fun _ => ?_)
        clear hK K
        try simp only [Act.put, List.getElem_toArray, List.getElem_cons_zero, List.getElem_cons_succ, List.setIfInBounds_toArray, List.set_cons_zero, List.set_cons_succ]
        refine wpAnyH_ready (rs := [4]) (by kernel_rfl) (by simp) ?_
        refine AllReadyH.cons rfl (fun K hK => ?_) AllReadyH.nil
        go_simp
        refine hK.out _ _ HW2.out (fun _ => ?_)
        clear hK K
        try simp only [Act.put, List.getElem_toArray, List.getElem_cons_zero, List.getElem_cons_succ, List.setIfInBounds_toArray, List.set_cons_zero, List.set_cons_succ]
        refine wpAnyH_ready (rs := [5]) (by kernel_rfl) (by simp) ?_
        refine AllReadyH.cons rfl (fun K hK => ?_) AllReadyH.nil
        refine step_append_told rfl (.tmp 20) (.tmp 23) 29 rfl (.slice oa k oc) (.slice (some ⟨wr.heap.size + 1, 0, none⟩) 1 1) (.slice va (k + 1) vc) w5 rfl rfl HRUN.out ?_
        refine hK.out _ _ HW5.out (fun _ => ?_)
        clear hK K
        try simp only [Act.put, List.getElem_toArray, List.getElem_cons_zero, List.getElem_cons_succ, List.setIfInBounds_toArray, List.set_cons_zero, List.set_cons_succ]
        refine wpAnyH_take (i := 6) (v := ?_) rfl (by kernel_rfl) (by kernel_rfl) (by kernel_rfl) (fun _ _ _ h => h) (Or.inl ⟨rfl, ?hy6⟩) HW5.out ?_
        case hy6 => intro w' hw'; clear hw'; go_simp; first | done | rfl
        try simp only [Act.put, List.getElem_toArray, List.getElem_cons_zero, List.getElem_cons_succ, List.setIfInBounds_toArray, List.set_cons_zero, List.set_cons_succ]
        refine wpAnyH_ready (rs := [7]) (by kernel_rfl) (by simp) ?_
        refine AllReadyH.cons rfl (fun K hK => ?_) AllReadyH.nil
        go_simp
        refine hK.out _ _ HW6.out (fun _ => ?_)
        clear hK K
        try simp only [Act.put, List.getElem_toArray, List.getElem_cons_zero, List.getElem_cons_succ, List.setIfInBounds_toArray, List.set_cons_zero, List.set_cons_succ]
        refine wpAnyH_done (by kernel_rfl) ?_ _
        go_wp2_with fail
        go_round
        case rel => exact ⟨k + 1, va, vc, by go_num, by omega, KO2, KX2, KZ2, KB2⟩
        case measure => simp [intOf]; omega
      · go_simp
        refine hK.out _ _ HW1.out (fun _ => ?_)
        clear hK K
        try simp only [Act.put, List.getElem_toArray, List.getElem_cons_zero, List.getElem_cons_succ, List.setIfInBounds_toArray, List.set_cons_zero, List.set_cons_succ]
        refine wpAnyH_ready (rs := [1, 3]) (by kernel_rfl) (by simp) ?_
        refine AllReadyH.cons rfl (fun K hK => ?_) (AllReadyH.cons rfl (fun K hK => ?_) AllReadyH.nil)
        · go_simp
          refine hK.out _ _ HW1.out (fun _ => ?_)
          clear hK K
          try simp only [Act.put, List.getElem_toArray, List.getElem_cons_zero, List.getElem_cons_succ, List.setIfInBounds_toArray, List.set_cons_zero, List.set_cons_succ]
          refine wpAnyH_ready (rs := [3]) (by kernel_rfl) (by simp) ?_
          refine AllReadyH.cons rfl (fun K hK => ?_) AllReadyH.nil
          go_simp
          refine hK.out _ _ HW1.out (fun _ => ?_)
          clear hK K
          try simp only [Act.put, List.getElem_toArray, List.getElem_cons_zero, List.getElem_cons_succ, List.setIfInBounds_toArray, List.set_cons_zero, List.set_cons_succ]
          refine wpAnyH_ready (rs := [4]) (by kernel_rfl) (by simp) ?_
          refine AllReadyH.cons rfl (fun K hK => ?_) AllReadyH.nil
          go_simp
          refine hK.out _ _ HW2.out (fun _ => ?_)
          clear hK K
          try simp only [Act.put, List.getElem_toArray, List.getElem_cons_zero, List.getElem_cons_succ, List.setIfInBounds_toArray, List.set_cons_zero, List.set_cons_succ]
          refine wpAnyH_ready (rs := [5]) (by kernel_rfl) (by simp) ?_
          refine AllReadyH.cons rfl (fun K hK => ?_) AllReadyH.nil
          refine step_append_told rfl (.tmp 20) (.tmp 23) 29 rfl (.slice oa k oc) (.slice (some ⟨wr.heap.size + 1, 0, none⟩) 1 1) (.slice va (k + 1) vc) w5 rfl rfl HRUN.out ?_
          refine hK.out _ _ HW5.out (fun _ => ?_)
          clear hK K
          try simp only [Act.put, List.getElem_toArray, List.getElem_cons_zero, List.getElem_cons_succ, List.setIfInBounds_toArray, List.set_cons_zero, List.set_cons_succ]
          refine wpAnyH_take (i := 6) (v := ?_) rfl (by kernel_rfl) (by kernel_rfl) (by kernel_rfl) (fun _ _ _ h => h) (Or.inl ⟨rfl, ?hy6⟩) HW5.out ?_
          case hy6 => intro w' hw'; clear hw'; go_simp; first | done | rfl
          try simp only [Act.put, List.getElem_toArray, List.getElem_cons_zero, List.getElem_cons_succ, List.setIfInBounds_toArray, List.set_cons_zero, List.set_cons_succ]
          refine wpAnyH_ready (rs := [7]) (by kernel_rfl) (by simp) ?_
          refine AllReadyH.cons rfl (fun K hK => ?_) AllReadyH.nil
          go_simp
          refine hK.out _ _ HW6.out (fun _ => ?_)
          clear hK K
          try simp only [Act.put, List.getElem_toArray, List.getElem_cons_zero, List.getElem_cons_succ, List.setIfInBounds_toArray, List.set_cons_zero, List.set_cons_succ]
          refine wpAnyH_done (by kernel_rfl) ?_ _
          go_wp2_with fail
          go_round
          case rel => exact ⟨k + 1, va, vc, by go_num, by omega, KO2, KX2, KZ2, KB2⟩
          case measure => simp [intOf]; omega
        · go_simp
          refine hK.out _ _ HW1.out (fun _ => ?_)
          clear hK K
          try simp only [Act.put, List.getElem_toArray, List.getElem_cons_zero, List.getElem_cons_succ, List.setIfInBounds_toArray, List.set_cons_zero, List.set_cons_succ]
          refine wpAnyH_ready (rs := [1, 4]) (by kernel_rfl) (by simp) ?_
          refine AllReadyH.cons rfl (fun K hK => ?_) (AllReadyH.cons rfl (fun K hK => ?_) AllReadyH.nil)
          · go_simp
            refine hK.out _ _ HW1.out (fun _ => ?_)
            clear hK K
            try simp only [Act.put, List.getElem_toArray, List.getElem_cons_zero, List.getElem_cons_succ, List.setIfInBounds_toArray, List.set_cons_zero, List.set_cons_succ]
            refine wpAnyH_ready (rs := [4]) (by kernel_rfl) (by simp) ?_
            refine AllReadyH.cons rfl (fun K hK => ?_) AllReadyH.nil
            go_simp
            refine hK.out _ _ HW2.out (fun _ => ?_)
            clear hK K
            try simp only [Act.put, List.getElem_toArray, List.getElem_cons_zero, List.getElem_cons_succ, List.setIfInBounds_toArray, List.set_cons_zero, List.set_cons_succ]
            refine wpAnyH_ready (rs := [5]) (by kernel_rfl) (by simp) ?_
            refine AllReadyH.cons rfl (fun K hK => ?_) AllReadyH.nil
            refine step_append_told rfl (.tmp 20) (.tmp 23) 29 rfl (.slice oa k oc) (.slice (some ⟨wr.heap.size + 1, 0, none⟩) 1 1) (.slice va (k + 1) vc) w5 rfl rfl HRUN.out ?_
            refine hK.out _ _ HW5.out (fun _ => ?_)
            clear hK K
            try simp only [Act.put, List.getElem_toArray, List.getElem_cons_zero, List.getElem_cons_succ, List.setIfInBounds_toArray, List.set_cons_zero, List.set_cons_succ]
            refine wpAnyH_take (i := 6) (v := ?_) rfl (by kernel_rfl) (by kernel_rfl) (by kernel_rfl) (fun _ _ _ h => h) (Or.inl ⟨rfl, ?hy6⟩) HW5.out ?_
            case hy6 => intro w' hw'; clear hw'; go_simp; first | done | rfl
            try simp only [Act.put, List.getElem_toArray, List.getElem_cons_zero, List.getElem_cons_succ, List.setIfInBounds_toArray, List.set_cons_zero, List.set_cons_succ]
            refine wpAnyH_ready (rs := [7]) (by kernel_rfl) (by simp) ?_
            refine AllReadyH.cons rfl (fun K hK => ?_) AllReadyH.nil
            go_simp
            refine hK.out _ _ HW6.out (fun _ => ?_)
            clear hK K
            try simp only [Act.put, List.getElem_toArray, List.getElem_cons_zero, List.getElem_cons_succ, List.setIfInBounds_toArray, List.set_cons_zero, List.set_cons_succ]
            refine wpAnyH_done (by kernel_rfl) ?_ _
            go_wp2_with fail
            go_round
            case rel => exact ⟨k + 1, va, vc, by go_num, by omega, KO2, KX2, KZ2, KB2⟩
            case measure => simp [intOf]; omega
          · go_simp
            refine hK.out _ _ HW2.out (fun _ => ?_)
            clear hK K
            try simp only [Act.put, List.getElem_toArray, List.getElem_cons_zero, List.getElem_cons_succ, List.setIfInBounds_toArray, List.set_cons_zero, List.set_cons_succ]
            refine wpAnyH_ready (rs := [1]) (by kernel_rfl) (by simp) ?_
            refine AllReadyH.cons rfl (fun K hK => ?_) AllReadyH.nil
            go_simp
            refine hK.out _ _ HW2.out (fun _ => ?_)
            clear hK K
            try simp only [Act.put, List.getElem_toArray, List.getElem_cons_zero, List.getElem_cons_succ, List.setIfInBounds_toArray, List.set_cons_zero, List.set_cons_succ]
            refine wpAnyH_ready (rs := [5]) (by kernel_rfl) (by simp) ?_
            refine AllReadyH.cons rfl (fun K hK => ?_) AllReadyH.nil
            refine step_append_told rfl (.tmp 20) (.tmp 23) 29 rfl (.slice oa k oc) (.slice (some ⟨wr.heap.size + 1, 0, none⟩) 1 1) (.slice va (k + 1) vc) w5 rfl rfl HRUN.out ?_
            refine hK.out _ _ HW5.out (fun _ => ?_)
            clear hK K
            try simp only [Act.put, List.getElem_toArray, List.getElem_cons_zero, List.getElem_cons_succ, List.setIfInBounds_toArray, List.set_cons_zero, List.set_cons_succ]
            refine wpAnyH_take (i := 6) (v := ?_) rfl (by kernel_rfl) (by kernel_rfl) (by kernel_rfl) (fun _ _ _ h => h) (Or.inl ⟨rfl, ?hy6⟩) HW5.out ?_
            case hy6 => intro w' hw'; clear hw'; go_simp; first | done | rfl
            try simp only [Act.put, List.getElem_toArray, List.getElem_cons_zero, List.getElem_cons_succ, List.setIfInBounds_toArray, List.set_cons_zero, List.set_cons_succ]
            refine wpAnyH_ready (rs := [7]) (by kernel_rfl) (by simp) ?_
            refine AllReadyH.cons rfl (fun K hK => ?_) AllReadyH.nil
            go_simp
            refine hK.out _ _ HW6.out (fun _ => ?_)
            clear hK K
            try simp only [Act.put, List.getElem_toArray, List.getElem_cons_zero, List.getElem_cons_succ, List.setIfInBounds_toArray, List.set_cons_zero, List.set_cons_succ]
            refine wpAnyH_done (by kernel_rfl) ?_ _
            go_wp2_with fail
            go_round
            case rel => exact ⟨k + 1, va, vc, by go_num, by omega, KO2, KX2, KZ2, KB2⟩
            case measure => simp [intOf]; omega
    · obtain rfl : n = k := by omega
      have j0 : decide ((n : Int) < (n : Int)) = false := decide_eq_false (by omega)
      obtain ⟨g, cap, hoe, hg1, hg2⟩ := own_at KO.out HN.out
      injection hoe with e1 _ e3
      subst e1
      subst e3
      have HQ : Hid (∀ w7, Below w.heap.size wr w7 → w7.heap[g]? = wr.heap[g]? → DDk w7 (fun q => w.heap.size ≤ q) (.agg #[.slice (some ⟨g, 0, none⟩) n oc, .slice none 0 0, .int .i64 (-1), .bool false]) (Ek.fresh n) ∧ Below w.heap.size w w7) := fun w7 hb7 hk7 => by
        have ho7 := own_same KO.out (w' := w7) (fun q hq => by cases hq; exact hk7)
        have hl7 := (ho7.lt g rfl).2
        refine ⟨⟨some ⟨g, 0, none⟩, none, oc, 0, rfl, ⟨fun i hi => ⟨g, 0, rfl, by omega, hl7, ?_⟩, fun q j r hq => by simp [Ek.fresh] at hq⟩, fun _ => rfl, Ek.fresh_ok n HN.out HN8.out⟩, KB.out.trans hb7⟩
        have hi : i < n := hi
        rw [Nat.zero_add, ho7.cellAt i (by omega)]
        unfold vstr
        rw [List.getElem?_map, List.getElem?_replicate, if_pos hi, HZS.out]; rfl
      have HG : Hid (w.heap.size + 2 ≤ g) := hg1
      have hZ7 := KZ.out.setSelf (i := 0) (.slice (some ⟨g, 0, none⟩) n oc)
      have hZ8 := hZ7.setSelf (i := 1) (.slice none 0 0)
      have hZ9 := hZ8.setSelf (i := 2) (.int .i64 (-1))
      have HZT := Lib.hid (hZ9.setSelf (i := 3) (.bool false))
      have t0 := (KZ.out.cell 0).trans (show _ = some (Value.slice none 0 0) from rfl)
      have t1 := (hZ7.cell 1).trans (show _ = some (Value.slice none 0 0) from rfl)
      have t2 := (hZ8.cell 2).trans (show _ = some (Value.int .i64 0) from rfl)
      have t3 := (hZ9.cell 3).trans (show _ = some (Value.bool false) from rfl)
      have b0 := KZ.out.free 0
      have b1 := hZ7.free 1
      have b2 := hZ8.free 2
      have b3 := hZ9.free 3
      have u0 := (KX.out.cell 0).trans (show _ = some (Value.slice (some ⟨g, 0, none⟩) n oc) from rfl)
      have u1 := (KX.out.cell 1).trans (show _ = some (Value.slice none 0 0) from rfl)
      have u2 := (KX.out.cell 2).trans (show _ = some (Value.int .i64 (-1)) from rfl)
      have u3 := (KX.out.cell 3).trans (show _ = some (Value.bool false) from rfl)
      clear hlt hk hg1 hg2 hZ7 hZ8 hZ9
      go_wp2_with fail
      have r0 := (HZT.out.cell 0).trans (show _ = some (Value.slice (some ⟨g, 0, none⟩) n oc) from rfl)
      have r1 := (HZT.out.cell 1).trans (show _ = some (Value.slice none 0 0) from rfl)
      have r2 := (HZT.out.cell 2).trans (show _ = some (Value.int .i64 (-1)) from rfl)
      have r3 := (HZT.out.cell 3).trans (show _ = some (Value.bool false) from rfl)
      refine bodyPost_ret (v := .tuple #[.agg #[.slice (some ⟨g, 0, none⟩) n oc, .slice none 0 0, .int .i64 (-1), .bool false], .int .i64 0]) ?_ rfl ?_
      · rw [results_cell_tmp rfl]
        go_simp
      · have hgg := HG.out
        have hq := HQ.out _ (((((Below.refl w.heap.size wr).setCell (p := ⟨w.heap.size, 0, none⟩) (Nat.le_refl _) (.slice (some ⟨g, 0, none⟩) n oc)).setCell (p := ⟨w.heap.size, 1, none⟩) (Nat.le_refl _) (.slice none 0 0)).setCell (p := ⟨w.heap.size, 2, none⟩) (Nat.le_refl _) (.int .i64 (-1))).setCell (p := ⟨w.heap.size, 3, none⟩) (Nat.le_refl _) (.bool false)) (by
          rw [Below.heap_setCell _ _ _ _ (by show g ≠ w.heap.size; omega), Below.heap_setCell _ _ _ _ (by show g ≠ w.heap.size; omega), Below.heap_setCell _ _ _ _ (by show g ≠ w.heap.size; omega), Below.heap_setCell _ _ _ _ (by show g ≠ w.heap.size; omega)])
        exact ⟨⟨_, rfl, hq.1⟩, hq.2⟩
end Go.Proofs.Ythbiibinmofmfaa
