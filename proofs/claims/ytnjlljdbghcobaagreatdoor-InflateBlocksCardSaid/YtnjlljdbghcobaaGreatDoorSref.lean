/- The document's None and Fixed. -/
import Derived.Test.YtnjlljdbghcobaaGreatDoorJget
import Derived.Test.YtnjlljdbghcobaaGreatDoorKrcodes
import Derived.Test.YtnjlljdbghcobaaGreatDoorKrun
import Derived.Test.YtnjlljdbghcobaaGreatDoorKrread3
import Derived.Test.YtnjlljdbghcobaaGreatDoorIdyn2
import Derived.Test.YtnjlljdbghcobaaGreatDoorSall

namespace Go.Proofs.YtnjlljdbghcobaaGreatDoor
set_option maxRecDepth 100000
open Go.RowKit

set_option maxHeartbeats 2000000 in
theorem jnone_any (ls : List Nat) (s : Value) (w : World) (hz : Zl w s (Hd.zz ls)) : Calls Tryz.prog 125 #[s] w fun e w' => e = .returned (.bool (decide (∀ x ∈ ls, x = 0))) ∧ w = w' := by
  have HZ := Lib.hid hz
  obtain ⟨a, len, cap, rfl, hlen⟩ := hz.shape
  rw [Hd.zz_length] at hlen
  have hl9 : len ≤ 17592186044416 := by
    obtain ⟨_, _, _, e, _, h, _⟩ := hz
    injection e with _ e2 _
    rw [e2]; exact h
  have HL := Lib.hid hlen
  obtain ⟨r, hr⟩ : ∃ r : Bool, r = decide (∀ x ∈ ls, x = 0) := ⟨_, rfl⟩
  rw [← hr]
  have HR := Lib.hid (fun _ : Unit => hr)
  clear hz hlen hr
  go_enter Tryz.func125, Tryz.ntmps125
  go_wp2_with fail
  go_loop [3] (fun s3 => ∃ k : Nat, k ≤ len ∧ s3 = .int .i64 k ∧ Hid (∀ j, j < k → ls[j]?.getD 0 = 0)) (fun s => len - (intOf s).toNat)
  case atStart => exact ⟨0, Nat.zero_le _, rfl, (fun j hj => absurd hj (Nat.not_lt_zero _) : ∀ j, j < 0 → _)⟩
  case round =>
    obtain ⟨k, hk, rfl, H0⟩ := hrel
    by_cases hlt : k < len
    · obtain ⟨b, off, rfl, hbl, hq, hc⟩ := zl_cell HZ.out k (by rw [Hd.zz_length]; have := HL.out; omega)
      rw [Hd.zz_get] at hc
      obtain ⟨x, hx⟩ : ∃ x : Nat, x = ls[k]?.getD 0 := ⟨_, rfl⟩
      rw [← hx] at hc
      have HX := Lib.hid hx
      clear hq hx hbl
      have j1 : (0 : Int) ≤ (k : Int) := by omega
      have j2 : (k : Int) < (len : Int) := by omega
      by_cases h0 : 0 < x
      · have d1 : decide ((0 : Int) < (x : Int)) = true := decide_eq_true (by omega)
        have d2 : decide (0 < x) = true := decide_eq_true h0
        have hr : Hid (r = false) := by
          show _ = _
          rw [HR.out ()]
          apply decide_eq_false
          intro h
          have := h x (by rw [HX.out]; rw [List.getElem?_eq_getElem (by have := HL.out; omega)]; exact List.getElem_mem _)
          omega
        clear HR
        go_wp2
        go_ret
        exact ⟨by rw [hr.out]; rfl, rfl⟩
      · have d1 : decide ((0 : Int) < (x : Int)) = false := decide_eq_false (by omega)
        have d2 : decide (0 < x) = false := decide_eq_false h0
        have N0 : Hid (∀ j, j < k + 1 → ls[j]?.getD 0 = 0) := fun j hj => by
          by_cases h : j < k
          · exact H0.out j h
          · obtain rfl : j = k := by omega
            rw [← HX.out]; omega
        clear H0
        go_wp2
        go_round
        case rel => exact ⟨k + 1, by omega, by go_num, N0⟩
        case measure => simp [intOf]; omega
    · obtain rfl : k = len := by omega
      have hr : Hid (r = true) := by
        show _ = _
        rw [HR.out ()]
        apply decide_eq_true
        intro x hx
        obtain ⟨j, hj, rfl⟩ := List.getElem_of_mem hx
        have := H0.out j (by rw [HL.out]; exact hj)
        rw [List.getElem?_eq_getElem hj] at this
        exact this
      clear HR H0
      go_wp2
      go_ret
      exact ⟨by rw [hr.out]; rfl, rfl⟩

/-- A list written from its front, over noughts. -/
def upd (L : List Nat) (k : Nat) : List Nat := L.take k ++ List.replicate (L.length - k) 0
theorem upd_length (L : List Nat) (k : Nat) (h : k ≤ L.length) : (upd L k).length = L.length := by simp [upd]; omega
theorem upd_full (L : List Nat) : upd L L.length = L := by simp [upd]
theorem upd_set (L : List Nat) (k : Nat) (h : k < L.length) : (upd L k).set k (L[k]?.getD 0) = upd L (k + 1) := by
  unfold upd
  have e1 : (L.take k).length = k := by rw [List.length_take]; omega
  rw [List.set_append_right _ _ (by omega), e1, Nat.sub_self]
  obtain ⟨m, hm⟩ : ∃ m, L.length - k = m + 1 := ⟨L.length - k - 1, by omega⟩
  rw [hm, List.replicate_succ, List.set_cons_zero, List.take_add_one, List.getElem?_eq_getElem h, show L.length - (k + 1) = m by omega, List.append_assoc]
  rfl

theorem fixL_get : ∀ k : Fin 288, If.fixL[k.1]?.getD 0 = if k.1 < 144 ∨ 280 ≤ k.1 then 8 else if k.1 < 256 then 9 else 7 := by decide +kernel
theorem fixD_get : ∀ k : Fin 32, If.fixD[k.1]?.getD 0 = 5 := by decide +kernel
theorem fixL_len : If.fixL.length = 288 := by decide +kernel
theorem fixD_len : If.fixD.length = 32 := by decide +kernel

theorem made_upd (L : List Nat) : Obj.cells (madeCells #[Value.int .i64 0] L.length) 3 (0, 0) = nums (upd L 0) := by
  unfold nums
  congr 1
  apply Array.toList_inj.1
  rw [toList_madeCells_one]
  simp [upd, vn]

/-- Two lists of the call's own, laid in whatever order. -/
def TwoL (w wx : World) (s2 s3 : Value) (a b : List Nat) : Prop :=
  ∃ g1 g2 : Nat, s2 = .slice (some ⟨g1, 0, none⟩) 288 288 ∧ s3 = .slice (some ⟨g2, 0, none⟩) 32 32 ∧ w.heap.size ≤ g1 ∧ w.heap.size ≤ g2 ∧ g1 ≠ g2 ∧ Has wx g1 (nums a) ∧ Has wx g2 (nums b) ∧ Below w.heap.size w wx
theorem has_two {w : World} {x y : Obj} : Has ((w.alloc x).alloc y) (w.heap.size + 1) y := by
  have h := Has.new (w.alloc x) y
  simpa using h
theorem TwoL.ab {w : World} {a b : List Nat} : TwoL w ((w.alloc (nums a)).alloc (nums b)).drew (.slice (some ⟨w.heap.size, 0, none⟩) 288 288) (.slice (some ⟨w.heap.size + 1, 0, none⟩) 32 32) a b :=
  ⟨_, _, rfl, rfl, Nat.le_refl _, by omega, by omega, (Has.new w (nums a)).alloc (nums b), has_two, (below2 w (nums a) (nums b)).drew⟩
theorem TwoL.ba {w : World} {a b : List Nat} : TwoL w ((w.alloc (nums b)).alloc (nums a)).drew (.slice (some ⟨w.heap.size + 1, 0, none⟩) 288 288) (.slice (some ⟨w.heap.size, 0, none⟩) 32 32) a b :=
  ⟨_, _, rfl, rfl, by omega, Nat.le_refl _, by omega, has_two, (Has.new w (nums b)).alloc (nums a), (below2 w (nums b) (nums a)).drew⟩

set_option maxRecDepth 100000 in
set_option maxHeartbeats 4000000 in
theorem jfixed_is (w : World) : Calls Tryz.prog 54 #[] w fun e w' => ∃ v1 v2, e = .returned (.tuple #[v1, v2]) ∧ TwoL w w' v1 v2 If.fixL If.fixD := by
  have hm1 : ∀ w, (Instr.makeSlice 33 (.int .i64 288) (.int .i64 288)).run Tryz.prog w = .ok (.slice (some ⟨w.heap.size, 0, none⟩) 288 288) (w.alloc (nums (upd If.fixL 0))) := fun w => by
    rw [← made_upd, fixL_len]
    exact run_make_row' (P := Tryz.prog) 33 3 (.int .i64 0) 8 Tryz.underlying33 Tryz.infoInt rfl .i64 .i64 288 (by omega) (by omega) w
  have hm2 : ∀ w, (Instr.makeSlice 33 (.int .i64 32) (.int .i64 32)).run Tryz.prog w = .ok (.slice (some ⟨w.heap.size, 0, none⟩) 32 32) (w.alloc (nums (upd If.fixD 0))) := fun w => by
    rw [← made_upd, fixD_len]
    exact run_make_row' (P := Tryz.prog) 33 3 (.int .i64 0) 8 Tryz.underlying33 Tryz.infoInt rfl .i64 .i64 32 (by omega) (by omega) w
  have HFIN : Hid (∀ wx g1 g2, w.heap.size ≤ g1 → w.heap.size ≤ g2 → g1 ≠ g2 → Has wx g1 (nums (upd If.fixL 288)) → Has wx g2 (nums (upd If.fixD 32)) → Below w.heap.size w wx → TwoL w wx (.slice (some ⟨g1, 0, none⟩) 288 288) (.slice (some ⟨g2, 0, none⟩) 32 32) If.fixL If.fixD) := by
    show ∀ _, _
    intro wx g1 g2 h1 h2 h3 h4 h5 h6
    rw [← fixL_len, upd_full] at h4
    rw [← fixD_len, upd_full] at h5
    exact ⟨g1, g2, rfl, rfl, h1, h2, h3, h4, h5, h6⟩
  have HLS : Hid (∀ k, k < 288 → (upd If.fixL k).length = 288 ∧ (upd If.fixL k).set k (if k < 144 ∨ 280 ≤ k then 8 else if k < 256 then 9 else 7) = upd If.fixL (k + 1)) := fun k hk => by
    have h := upd_set If.fixL k (by rw [fixL_len]; exact hk)
    rw [fixL_get ⟨k, hk⟩] at h
    exact ⟨by rw [upd_length _ _ (by rw [fixL_len]; omega), fixL_len], h⟩
  have HDS : Hid (∀ k, k < 32 → (upd If.fixD k).length = 32 ∧ (upd If.fixD k).set k 5 = upd If.fixD (k + 1)) := fun k hk => by
    have h := upd_set If.fixD k (by rw [fixD_len]; exact hk)
    rw [fixD_get ⟨k, hk⟩] at h
    exact ⟨by rw [upd_length _ _ (by rw [fixD_len]; omega), fixD_len], h⟩
  generalize hU : upd If.fixL = U at *
  generalize hV : upd If.fixD = V at *
  generalize hfl : If.fixL = FL at *
  generalize hfd : If.fixD = FD at *
  clear hU hV hfl hfd
  go_enter Tryz.func54, Tryz.ntmps54
  go_upto_region 1 with fail
  go_cut [2, 3] from 6 to 7 (fun s2 s3 wx => TwoL w wx s2 s3 (U 0) (V 0))
  case first =>
    go_region
    all_goals (go_wp2_with fail; go_meet; first | with_reducible exact TwoL.ab | with_reducible exact TwoL.ba | exact TwoL.ab | exact TwoL.ba)
  case rest =>
    obtain ⟨g1, g2, rfl, rfl, h1, h2, h3, hx, hy, hb⟩ := hcut
    clear hm1 hm2
    have HX := Lib.hid hx
    have HY := Lib.hid hy
    have HB := Lib.hid hb
    clear hx hy hb
    go_wp2_with fail
    go_loopw [4] (fun s4 wr => ∃ k : Nat, k ≤ 288 ∧ s4 = .int .i64 (k : Int) ∧ Hid (Has wr g1 (nums (U k))) ∧ Hid (Has wr g2 (nums (V 0))) ∧ Hid (Below w.heap.size w wr)) (fun s _ => 288 - (intOf s).toNat)
    case atStart => exact ⟨0, Nat.zero_le _, rfl, HX, HY, HB⟩
    case round =>
      obtain ⟨k, hk, rfl, KX, KY, KB⟩ := hrel
      by_cases hlt : k < 288
      · obtain ⟨hlen, hset⟩ := HLS.out k hlt
        have c0 := nums_cell KX.out k (by rw [hlen]; exact hlt)
        have y0 : wr.frozen? ⟨g1, k, none⟩ = false := by have := KX.out; unfold nums at this; exact this.free k
        have KN : ∀ x : Nat, (U k).set k x = U (k + 1) → Hid (Has (wr.setCell ⟨g1, k, none⟩ (.int .i64 (x : Int))) g1 (nums (U (k + 1)))) ∧ Hid (Has (wr.setCell ⟨g1, k, none⟩ (.int .i64 (x : Int))) g2 (nums (V 0))) ∧ Hid (Below w.heap.size w (wr.setCell ⟨g1, k, none⟩ (.int .i64 (x : Int)))) := fun x hx => by
          refine ⟨?_, ?_, ?_⟩
          · show Has _ _ _
            have := nums_set KX.out k x
            rw [hx] at this
            exact this
          · exact KY.out.set (a := ⟨g1, k, none⟩) (fun e => h3 e.symm) _
          · exact KB.out.setCell (p := ⟨g1, k, none⟩) h1 _
        have HKN := Lib.hid KN
        have i1 : (k : Int) < 288 := by omega
        have HSET := Lib.hid (fun _ : Unit => hset)
        clear hset hlen KN
        by_cases k1 : k < 144
        · have d1 : decide ((k : Int) < 144) = true := decide_eq_true (by omega)
          have d1' : decide (k < 144) = true := decide_eq_true (by omega)
          obtain ⟨n1, n2, n3⟩ := HKN.out 8 (by have := HSET.out (); rwa [if_pos (Or.inl k1)] at this)
          clear HSET HKN KX KY KB
          go_wp2
          go_roundw
          case rel => exact ⟨k + 1, by omega, by go_num, n1, n2, n3⟩
          case measure => simp [intOf]; omega
        · have d1 : decide ((k : Int) < 144) = false := decide_eq_false (by omega)
          have d1' : decide (k < 144) = false := decide_eq_false (by omega)
          by_cases k2 : 280 ≤ k
          · have d2 : decide ((280 : Int) ≤ (k : Int)) = true := decide_eq_true (by omega)
            have d2' : decide (280 ≤ k) = true := decide_eq_true (by omega)
            obtain ⟨n1, n2, n3⟩ := HKN.out 8 (by have := HSET.out (); rwa [if_pos (Or.inr k2)] at this)
            clear HSET HKN KX KY KB
            go_wp2
            go_roundw
            case rel => exact ⟨k + 1, by omega, by go_num, n1, n2, n3⟩
            case measure => simp [intOf]; omega
          · have d2 : decide ((280 : Int) ≤ (k : Int)) = false := decide_eq_false (by omega)
            have d2' : decide (280 ≤ k) = false := decide_eq_false (by omega)
            have hset := HSET.out ()
            rw [if_neg (by omega)] at hset
            by_cases k3 : k < 256
            · have d3 : decide ((k : Int) < 256) = true := decide_eq_true (by omega)
              have d3' : decide (k < 256) = true := decide_eq_true (by omega)
              obtain ⟨n1, n2, n3⟩ := HKN.out 9 (by rwa [if_pos k3] at hset)
              clear HSET HKN KX KY KB hset
              go_wp2
              go_roundw
              case rel => exact ⟨k + 1, by omega, by go_num, n1, n2, n3⟩
              case measure => simp [intOf]; omega
            · have d3 : decide ((k : Int) < 256) = false := decide_eq_false (by omega)
              have d3' : decide (k < 256) = false := decide_eq_false (by omega)
              obtain ⟨n1, n2, n3⟩ := HKN.out 7 (by rwa [if_neg k3] at hset)
              clear HSET HKN KX KY KB hset
              go_wp2
              go_roundw
              case rel => exact ⟨k + 1, by omega, by go_num, n1, n2, n3⟩
              case measure => simp [intOf]; omega
      · obtain rfl : k = 288 := by omega
        clear HX HY HB HLS
        go_wp2_with fail
        go_loopw [5] (fun s5 wq => ∃ k : Nat, k ≤ 32 ∧ s5 = .int .i64 (k : Int) ∧ Hid (Has wq g1 (nums (U 288))) ∧ Hid (Has wq g2 (nums (V k))) ∧ Hid (Below w.heap.size w wq)) (fun s _ => 32 - (intOf s).toNat)
        case atStart => exact ⟨0, Nat.zero_le _, rfl, KX, KY, KB⟩
        case round =>
          clear KX KY KB
          obtain ⟨k, hk, rfl, KX, KY, KB⟩ := hrel
          by_cases hlt : k < 32
          · obtain ⟨hlen, hset⟩ := HDS.out k hlt
            have c0 := nums_cell KY.out k (by rw [hlen]; exact hlt)
            have y0 : wr.frozen? ⟨g2, k, none⟩ = false := by have := KY.out; unfold nums at this; exact this.free k
            have n2 : Hid (Has (wr.setCell ⟨g2, k, none⟩ (.int .i64 ((5 : Nat) : Int))) g2 (nums (V (k + 1)))) := by
              show Has _ _ _
              have := nums_set KY.out k 5
              rw [hset] at this
              exact this
            have n1 := Lib.hid (KX.out.set (a := ⟨g2, k, none⟩) h3 (.int .i64 ((5 : Nat) : Int)))
            have n3 := Lib.hid (KB.out.setCell (p := ⟨g2, k, none⟩) h2 (.int .i64 ((5 : Nat) : Int)))
            have i1 : (k : Int) < 32 := by omega
            clear hset hlen KX KY KB
            go_wp2
            go_roundw
            case rel => exact ⟨k + 1, by omega, by go_num, n1, n2, n3⟩
            case measure => simp [intOf]; omega
          · obtain rfl : k = 32 := by omega
            have hf := HFIN.out _ g1 g2 h1 h2 h3 KX.out KY.out KB.out
            have HF := Lib.hid hf
            clear hf HFIN KX KY KB HDS
            go_wp2
            go_ret2
            exact ⟨_, _, rfl, HF.out⟩
end Go.Proofs.YtnjlljdbghcobaaGreatDoor

/- Contract of the document's header.Read, whole. -/
namespace Go.Proofs.YtnjlljdbghcobaaGreatDoor
set_option maxRecDepth 100000
open Go.RowKit

theorem rhread_any (s : Value) (l : List Bool) (N p : Nat) (w : World) (hs : Sl w s (Bs.pack l)) (hl : Hid (N = l.length)) (hN : N ≤ 2251799813685248) (hp : p ≤ N) :
    Calls Tryz.prog 123 #[.agg #[s, .int .i64 (N : Int)], .int .i64 (p : Int)] w (RReadPost w (Hd.head l p)) := by
  have hl' : N = l.length := hl.out
  by_cases h0 : N < p + 5
  · rw [Hd.head_e1 (by omega)]; exact rhead_e1 s l N p w hs hl hN hp h0
  · by_cases h1 : N < p + 10
    · rw [Hd.head_e1 (by omega)]; exact rhead_e2 s l N p w hs hl hN (by omega) h1
    · by_cases h3 : 286 < Hd.num l p 5 + 257 ∨ 30 < Hd.num l (p + 5) 5 + 1
      · rw [Hd.head_e3 (by omega) rfl rfl h3]
        by_cases h2 : 286 < Hd.num l p 5 + 257
        · exact rhead_e3a s l N p w hs hl hN (by omega) h2
        · exact rhead_e3b s l N p w hs hl hN (by omega) ⟨h2, h3.resolve_left h2⟩
      · by_cases h4 : N < p + 14
        · rw [Hd.head_e4 (by omega) rfl rfl h3 (by omega)]; exact rhead_e4 s l N p w hs hl hN (by omega) h3 h4
        · by_cases h5 : N < p + 14 + 3 * (Hd.num l (p + 10) 4 + 4)
          · rw [Hd.head_e5 (by omega) rfl rfl rfl h3 (by omega)]; exact rhead_e5 s l N p w hs hl hN (by omega) h3 h5
          · by_cases h6 : newE (Hd.zz (Hd.cl l (p + 14) (Hd.num l (p + 10) 4 + 4))) = 0
            · rw [Hd.head_run (by omega) rfl rfl rfl rfl h3 (by omega) h6]; exact rhead_run s l N p w hs hl hN (by omega) h3 (by omega) h6
            · rw [Hd.head_e6 (by omega) rfl rfl rfl rfl h3 (by omega) h6]; exact rhead_e6 s l N p w hs hl hN (by omega) h3 (by omega) h6
end Go.Proofs.YtnjlljdbghcobaaGreatDoor

/- Contract of the document's reader: dynamic. -/
namespace Go.Proofs.YtnjlljdbghcobaaGreatDoor
set_option maxRecDepth 100000
open Go.RowKit

theorem Zk.of_new {K : Nat → Prop} {w w1 : World} {v : Value} {ls : List Nat} (hz : Zl w1 v (Hd.zz ls)) (hn : Newer w v) (hf : (∀ x ∈ ls, x = 0) ∨ Fit (Hd.zz ls)) : Zk (fun k => K k ∨ (w.heap.size ≤ k ∧ k < w1.heap.size)) w1 v ls := by
  refine ⟨hz, fun a len cap b off e h0 ha => Or.inr ⟨hn a len cap b off e ha, ?_⟩, hf⟩
  obtain ⟨a', len', cap', e', _, _, _, h4⟩ := hz
  rw [e] at e'
  injection e' with e1 e2 _
  obtain ⟨b', off', e3, hlt, _⟩ := h4 (by omega)
  rw [← e1, ha] at e3
  injection e3 with e3
  injection e3 with e3 _ _
  omega

theorem Zl.newer {w w1 : World} {v x : Value} {zs : List Int} {R i : Nat} (h : Zl w1 v zs) (hn : Newer w v) (hR : R < w.heap.size) : Zl (w1.setCell ⟨R, i, none⟩ x) v zs := by
  obtain ⟨a, len, cap, rfl, h1, h2, h3, h4⟩ := h
  refine ⟨a, len, cap, rfl, h1, h2, h3, fun h0 => ?_⟩
  obtain ⟨b, off, rfl, hlt, hc⟩ := h4 h0
  have hb := hn _ _ _ _ _ rfl rfl
  refine ⟨b, off, rfl, by simpa using hlt, fun j hj => ?_⟩
  rw [cell_of_heap (Below.heap_setCell w1 ⟨R, i, none⟩ x b (by simp only; omega))]
  exact hc j hj

/-- What the document's reader of lengths leaves. -/
def Jd (K : Nat → Prop) (R : Nat) (s : Value) (l : List Bool) (N most : Nat) (out : List Nat) (w : World) (r : List Nat × List Nat × Nat × Int) (e : Ending) (w' : World) : Prop :=
  Fr K w w' ∧ (r.2.2.2 = 0 → ∃ v1 v2 K', e = .returned (.tuple #[v1, v2, .int .i64 0]) ∧ (∀ k, K k → K' k) ∧ Zk K' w' v1 r.1 ∧ Zk K' w' v2 r.2.1 ∧ Fit (Hd.zz r.1) ∧ Ds K' R s l N most w' r.2.2.1 out) ∧
    (r.2.2.2 ≠ 0 → e = .returned (.tuple #[.slice none 0 0, .slice none 0 0, .int .i64 r.2.2.2]))

/-- The lengths of a dynamic block, or what is wrong with them. -/
noncomputable def jdynE (h : List Nat × List Nat × Nat × Int) : List Nat × List Nat × Nat × Int :=
  if h.2.2.2 ≠ 0 then ([], [], 0, h.2.2.2) else if h.1[256]?.getD 0 = 0 then ([], [], 0, 13) else if newE (Hd.zz h.1) ≠ 0 then ([], [], 0, newE (Hd.zz h.1)) else
  if newE (Hd.zz h.2.1) ≠ 0 ∧ ¬ (∀ x ∈ h.2.1, x = 0) then ([], [], 0, newE (Hd.zz h.2.1)) else h

set_option maxRecDepth 100000 in
set_option maxHeartbeats 8000000 in
theorem jdynamic_any {K : Nat → Prop} {R : Nat} {s : Value} {l : List Bool} {N most : Nat} {w : World} {p : Nat} {out : List Nat} (hS : Ds K R s l N most w p out) (hl : Hid (N = l.length)) (hN : N ≤ 2251799813685248) (r : List Nat × List Nat × Nat × Int) (hr : Hid (Unit → jdynE (Hd.head l p) = r)) :
    Calls Tryz.prog 78 #[.pointer (some ⟨R, 0, none⟩)] w (Jd K R s l N most out w r) := by
  have HS := Lib.hid hS
  obtain ⟨ov, hx, _, _⟩ := hS.has
  obtain ⟨c0, c1, c2, _⟩ := jdi_cells hx
  have hp := hS.pn
  obtain ⟨lit, dist, q, c, hh⟩ : ∃ lit dist q c, Hd.head l p = (lit, dist, q, c) := ⟨_, _, _, _, rfl⟩
  have hst := hr.out ()
  rw [hh] at hst
  unfold jdynE at hst
  simp only at hst
  have HST := Lib.hid (fun _ : Unit => hst)
  have HH := Lib.hid (fun _ : Unit => hh)
  obtain ⟨sa, sl, sc, rfl, hsl⟩ := hS.sl.shape
  clear hsl
  have HX := Lib.hid hx
  have HG := Lib.hid (fun W (hb : Below w.heap.size w W) => rhread_any _ l N p W (hS.sl.later hb) hl hN hp)
  rw [hh] at HG
  have B0 := Lib.hid (Below.refl w.heap.size w)
  have HP := Lib.hid hp
  clear hx hS hst hh hr hp
  go_enter Tryz.func78, Tryz.ntmps78
  go_wp2
  go_region_held3 (fun wx => wx.cell? ⟨R, 0, none⟩ = some (.slice sa sl sc) ∧ wx.cell? ⟨R, 1, none⟩ = some (.int .i64 (N : Int)) ∧ wx.cell? ⟨R, 2, none⟩ = some (.int .i64 (p : Int)) ∧ Below w.heap.size w wx) (first | exact ⟨c0, c1, c2, B0.out.drew⟩ | exact keep_jdi HX.out B0.out.drew hb1.out)
    (first | (go_at_call 123; refine (HG.out _ B0.out.drew).mono ?_; rintro e w1 ⟨s1, s2, rfl, z1, z2, hb, n1, n2⟩; have HZ1 := Lib.hid z1; have HZ2 := Lib.hid z2; have hb1 := Lib.hid hb; have HN1 := Lib.hid n1; have HN2 := Lib.hid n2; clear z1 z2 hb n1 n2))
  have HB := Lib.hid (B0.out.drew.trans (hb1.out.mono (Nat.le_refl _)))
  clear c0 c1 c2 HG
  by_cases hc : c = 0
  · subst hc
    have hx1 := HX.out.later HB.out
    obtain ⟨_, _, e2, _⟩ := jdi_cells hx1
    have y2 := jdi_free hx1 2
    have hfacts := If.head_facts (l := l) (p := p) (by rw [HH.out ()])
    rw [HH.out ()] at hfacts
    simp only at hfacts
    have hq : q ≤ N := by rw [hl.out]; exact hfacts.2
    have hlens := Hd.head_lens (HH.out ())
    have hst := HST.out ()
    rw [if_neg (by simp)] at hst
    have hSK := HS.out.widen HB.out
    have HSK := Lib.hid (hSK.at q hq)
    have HFK := Lib.hid ((Fr.of_below HS.out.lt HB.out).trans ((HS.out.later HB.out).at_fr q))
    have HY1 := Lib.hid (HZ1.out.newer (i := 2) (x := .int .i64 (q : Int)) HN1.out HX.out.lt)
    have HY2 := Lib.hid (HZ2.out.newer (i := 2) (x := .int .i64 (q : Int)) HN2.out HX.out.lt)
    obtain ⟨a1, m1, k1, rfl, hm1⟩ := HY1.out.shape
    rw [Hd.zz_length] at hm1
    obtain ⟨a2, m2, k2, rfl, hm2⟩ := HY2.out.shape
    rw [Hd.zz_length] at hm2
    obtain ⟨b, off, rfl, hb0, hq0, hc5⟩ := zl_cell HY1.out 256 (by rw [Hd.zz_length]; omega)
    clear hb0 hq0
    rw [Hd.zz_get] at hc5
    obtain ⟨x, hx0⟩ : ∃ x, x = lit[256]?.getD 0 := ⟨_, rfl⟩
    rw [← hx0] at hc5 hst
    have HST2 := Lib.hid (fun _ : Unit => hst)
    have hm9 : 257 ≤ m1 ∧ m1 ≤ 286 := by omega
    have HXX : R < w.heap.size := HX.out.lt
    have HM2 := Lib.hid hm2
    have HW1 : Hid (w1.heap.size = (w1.setCell ⟨R, 2, none⟩ (.int .i64 (q : Int))).heap.size) := by show _ = _; simp
    clear hst HST hfacts hlens hx1 hx0 hm1 hm2 hSK HZ1 HZ2 HX hb1
    by_cases h0 : x = 0
    · have hst := HST2.out ()
      rw [if_pos h0] at hst
      subst hst h0
      clear HST2
      go_wp2
      refine bodyPost_ret (v := .tuple #[.slice none 0 0, .slice none 0 0, .int .i64 13]) (by simp [results, Tryz.results78, go_sem]) rfl ⟨HFK.out, fun h => absurd h (by decide), fun _ => rfl⟩
    have hst := HST2.out ()
    rw [if_neg h0] at hst
    have dx : ((x : Int) == 0) = false := by simp; omega
    have dx2 : (x == 0) = false := by simp; omega
    have HE1 := Lib.hid (rnew_any _ _ _ HY1.out)
    have HE2 := Lib.hid (rnew_any _ _ _ HY2.out)
    have HF1 : Hid (newE (Hd.zz lit) = 0 → Fit (Hd.zz lit)) := fit_of
    have HF2 : Hid (newE (Hd.zz dist) = 0 → Fit (Hd.zz dist)) := fit_of
    generalize newE (Hd.zz lit) = cl at hst HE1 HF1
    generalize newE (Hd.zz dist) = cd at hst HE2 HF2
    have HST3 := Lib.hid (fun _ : Unit => hst)
    have HNO := Lib.hid (jnone_any dist _ _ HY2.out)
    generalize hW : w1.setCell ⟨R, 2, none⟩ (.int .i64 (q : Int)) = W at *
    clear hst HST2 h0
    by_cases hcl : cl = 0
    · subst hcl
      have hst := HST3.out ()
      rw [if_neg (by simp)] at hst
      have HST4 := Lib.hid (fun _ : Unit => hst)
      clear hst HST3
      by_cases hcd : cd = 0
      · subst hcd
        have hst := HST4.out ()
        rw [if_neg (by simp)] at hst
        subst hst
        clear HST4 HNO
        go_wp2_with fail
        try rw [hW]
        refine HE1.out.mono ?_
        rintro e w2 ⟨rfl, rfl⟩
        go_wp2_with fail
        refine HE2.out.mono ?_
        rintro e w2 ⟨rfl, rfl⟩
        go_wp2
        refine bodyPost_ret (v := .tuple #[.slice (some ⟨b, off, none⟩) m1 k1, .slice a2 m2 k2, .int .i64 0]) (by simp [results, Tryz.results78, go_sem]) rfl ⟨HFK.out, fun _ => ⟨_, _, _, rfl, fun k hk => Or.inl hk, ?_, ?_, HF1.out (by trivial), HSK.out⟩, fun h => absurd rfl h⟩
        · have := Zk.of_new (K := K) HY1.out HN1.out (Or.inr (HF1.out (by trivial))); rw [← HW1.out] at this; exact this
        · have := Zk.of_new (K := K) HY2.out HN2.out (Or.inr (HF2.out (by trivial))); rw [← HW1.out] at this; exact this
      · have e9 : (cd != 0) = true := by rw [bne_iff_ne]; exact hcd
        by_cases hz : ∀ x ∈ dist, x = 0
        · have hst := HST4.out ()
          rw [if_neg (fun h => h.2 hz)] at hst
          subst hst
          have dz : decide (∀ x ∈ dist, x = 0) = true := decide_eq_true hz
          rw [dz] at HNO
          have HZZ := Lib.hid hz
          clear HST4 dz hz hcd HF2
          go_wp2_with fail
          try rw [hW]
          refine HE1.out.mono ?_
          rintro e w2 ⟨rfl, rfl⟩
          go_wp2_with fail
          refine HE2.out.mono ?_
          rintro e w2 ⟨rfl, rfl⟩
          go_wp2_with fail
          refine HNO.out.mono ?_
          rintro e w2 ⟨rfl, rfl⟩
          go_wp2
          refine bodyPost_ret (v := .tuple #[.slice (some ⟨b, off, none⟩) m1 k1, .slice a2 m2 k2, .int .i64 0]) (by simp [results, Tryz.results78, go_sem]) rfl ⟨HFK.out, fun _ => ⟨_, _, _, rfl, fun k hk => Or.inl hk, ?_, ?_, HF1.out (by trivial), HSK.out⟩, fun h => absurd rfl h⟩
          · have := Zk.of_new (K := K) HY1.out HN1.out (Or.inr (HF1.out (by trivial))); rw [← HW1.out] at this; exact this
          · have := Zk.of_new (K := K) HY2.out HN2.out (Or.inl HZZ.out); rw [← HW1.out] at this; exact this
        · have hst := HST4.out ()
          rw [if_pos ⟨hcd, hz⟩] at hst
          subst hst
          have dz : decide (∀ x ∈ dist, x = 0) = false := decide_eq_false hz
          rw [dz] at HNO
          have HC := Lib.hid hcd
          clear HST4 dz hz hcd HF2
          go_wp2_with fail
          try rw [hW]
          refine HE1.out.mono ?_
          rintro e w2 ⟨rfl, rfl⟩
          go_wp2_with fail
          refine HE2.out.mono ?_
          rintro e w2 ⟨rfl, rfl⟩
          go_wp2_with fail
          refine HNO.out.mono ?_
          rintro e w2 ⟨rfl, rfl⟩
          go_wp2
          refine bodyPost_ret (v := .tuple #[.slice none 0 0, .slice none 0 0, .int .i64 cd]) (by simp [results, Tryz.results78, go_sem]) rfl ⟨HFK.out, fun h => absurd h HC.out, fun _ => rfl⟩
    · have hst := HST3.out ()
      rw [if_pos hcl] at hst
      subst hst
      have e9 : (cl != 0) = true := by rw [bne_iff_ne]; exact hcl
      have HC := Lib.hid hcl
      clear HST3 hcl HNO HE2 HF1 HF2
      go_wp2_with fail
      try rw [hW]
      refine HE1.out.mono ?_
      rintro e w2 ⟨rfl, rfl⟩
      go_wp2
      refine bodyPost_ret (v := .tuple #[.slice none 0 0, .slice none 0 0, .int .i64 cl]) (by simp [results, Tryz.results78, go_sem]) rfl ⟨HFK.out, fun h => absurd h HC.out, fun _ => rfl⟩
  · have hst := HST.out ()
    rw [if_pos hc] at hst
    subst hst
    have e9 : (c != 0) = true := by rw [bne_iff_ne]; exact hc
    have HC := Lib.hid hc
    clear hc HZ1 HZ2 HN1 HN2 HST
    go_wp2
    refine bodyPost_ret (v := .tuple #[.slice none 0 0, .slice none 0 0, .int .i64 c]) (by simp [results, Tryz.results78, go_sem]) rfl ⟨Fr.of_below HS.out.lt HB.out, fun h => absurd h HC.out, fun _ => rfl⟩
end Go.Proofs.YtnjlljdbghcobaaGreatDoor

/- Contracts of the document's tables and of 'last'. -/
namespace Go.Proofs.YtnjlljdbghcobaaGreatDoor
set_option maxRecDepth 100000
open Go.RowKit

/-- Numbers, as cells. -/
def numS (l : List Nat) : List Value := l.map fun (x : Nat) => Value.int .i64 (x : Int)
/-- Block b holds the numbers l. -/
def Tbs (w : World) (b : Nat) (l : List Nat) : Prop := b < w.heap.size ∧ ∀ i, i < l.length → w.cell? ⟨b, i, none⟩ = some (.int .i64 (Sy.at' l i : Nat))
theorem Tbs.later {w w' : World} {b : Nat} {l : List Nat} (h : Tbs w b l) (hb : Below w.heap.size w w') : Tbs w' b l :=
  ⟨Nat.lt_of_lt_of_le h.1 hb.size, fun i hi => (hb.cell (p := ⟨b, i, none⟩) h.1).trans (h.2 i hi)⟩
theorem Tbs.of {w : World} {b : Nat} {cs : Array Value} {t : TypeId} {l : List Nat} (h : Has w b (.cells cs t (0, 0))) (hc : cs = (numS l).toArray) : Tbs w b l := by
  refine ⟨h.lt, fun i hi => ?_⟩
  rw [h.cell, hc]
  simp [numS, Sy.at', hi]

/-- What the two tables leave. -/
def Tabs (l1 l2 : List Nat) (N : Nat) (w : World) (e : Ending) (w' : World) : Prop :=
  ∃ b1 b2, e = .returned (.tuple #[.slice (some ⟨b1, 0, none⟩) N N, .slice (some ⟨b2, 0, none⟩) N N]) ∧ Tbs w' b1 l1 ∧ Tbs w' b2 l2 ∧ Below w.heap.size w w'

theorem has2 (w : World) (o1 o2 : Obj) : Has ((w.alloc o1).alloc o2) (w.heap.size + 1) o2 := (facts2 (Below.refl _ ((w.alloc o1).alloc o2))).2.1

set_option maxRecDepth 10000 in
set_option maxHeartbeats 4000000 in
theorem rlens_is (w : World) : Calls Tryz.prog 90 #[] w (Tabs Sy.lf Sy.lb 29 w) := by
  go_enter Tryz.func90, Tryz.ntmps90
  go_wp2
  go_ret2
  exact ⟨_, _, rfl, Tbs.of ((Has.new w _).alloc _) rfl, Tbs.of (has2 w _ _) rfl, below2 w _ _⟩

set_option maxRecDepth 10000 in
set_option maxHeartbeats 4000000 in
theorem rdists_is (w : World) : Calls Tryz.prog 92 #[] w (Tabs Sy.df Sy.db 30 w) := by
  go_enter Tryz.func92, Tryz.ntmps92
  go_wp2
  go_ret2
  exact ⟨_, _, rfl, Tbs.of ((Has.new w _).alloc _) rfl, Tbs.of (has2 w _ _) rfl, below2 w _ _⟩

set_option maxHeartbeats 2000000 in
theorem rlast_is (l : List Nat) (b n N : Nat) (w : World) (h : Tbs w b l) (hN : N = l.length) (hl : N ≤ 1000) :
    Calls Tryz.prog 91 #[.slice (some ⟨b, 0, none⟩) N N, .int .i64 (n : Int)] w fun e w' => e = .returned (.int .i64 (Sy.lastTo l n N : Nat)) ∧ w = w' := by
  have H := Lib.hid h
  clear h
  have HN := Lib.hid hN
  clear hN
  go_enter Tryz.func91, Tryz.ntmps91
  go_wp2_with fail
  go_loopw [5, 6] (fun s5 s6 wr => ∃ i k : Nat, i ≤ N ∧ s6 = .int .i64 (i : Int) ∧ s5 = .int .i64 (k : Int) ∧ Hid (k = Sy.lastTo l n i) ∧ wr = w) (fun _ s _ => N - (intOf s).toNat)
  case atStart => exact ⟨0, 0, Nat.zero_le _, rfl, rfl, rfl, rfl⟩
  case round =>
    obtain ⟨i, k, hi, rfl, rfl, HK, rfl⟩ := hrel
    by_cases hlt : i < N
    · have hc := H.out.2 i (by rw [← HN.out]; exact hlt)
      have hs := Sy.lastTo_succ l n i
      obtain ⟨x, hx⟩ : ∃ x, x = Sy.at' l i := ⟨_, rfl⟩
      rw [← hx] at hc hs
      clear hx
      by_cases hle : x ≤ n
      · rw [if_pos hle] at hs
        have HS := Lib.hid hs.symm
        clear hs
        go_wp2_with fail
        go_roundw
        case rel => exact ⟨i + 1, i, by omega, by go_num, by go_num, HS, by first | rfl | trivial⟩
        case measure => simp [intOf]; omega
      · rw [if_neg hle, ← HK.out] at hs
        have HS := Lib.hid hs.symm
        clear hs
        go_wp2_with fail
        go_roundw
        case rel => exact ⟨i + 1, k, by omega, by go_num, by go_num, HS, by first | rfl | trivial⟩
        case measure => simp [intOf]; omega
    · obtain rfl : i = N := by omega
      go_wp2_with fail
      go_ret
      exact ⟨by rw [← HK.out]; rfl, rfl⟩
end Go.Proofs.YtnjlljdbghcobaaGreatDoor
