/- errors.As where the error is a fault and the target a fault. (After the manner of the guide's worked example on errors.As.) -/
import Derived.Test.YtnjlljdbghcobaaGreatDoorIas
import Derived.Test.YtnjlljdbghcobaaGreatDoorHref
import Derived.Deep.RegionHeld3

namespace Go.Proofs.YtnjlljdbghcobaaGreatDoor
set_option maxRecDepth 100000
open Go.RowKit Go.Extern.Stop Go.Stop Go.Extern

set_option maxHeartbeats 4000000 in
theorem as_as (c : Int) (t V : Nat) (old : Value) (w : World) (hV : Has w V (.cells #[.pointer (some ⟨t, 0, none⟩)] 114 (0, 0))) (hT : Has w t (.cells #[old] 109 (0, 0))) :
    Calls Tryz.prog 114 #[.iface 109 (.agg #[.int .i64 c]), .iface 114 (.pointer (some ⟨t, 0, none⟩)), vP V, .iface 203 rF] w
      fun ev w' => ev = .returned (.bool true) ∧ Only t w w' ∧ Has w' t (.cells #[.int .i64 c] 109 (0, 0)) := by
  have h44 := @run_callFunc_extern Tryz.prog 111 _ (fun args => ReflectliteValue.unpack (args.getD 0 (.tuple #[]))) Tryz.func111 (by kernel_rfl) (by kernel_rfl) (by kernel_rfl) (by kernel_rfl)
  have h62 := @run_callFunc_extern Tryz.prog 152 _ ReflectliteType.typeOf Tryz.func152 (by kernel_rfl) (by kernel_rfl) (by kernel_rfl) (by kernel_rfl)
  have h35 := @run_callFunc_extern Tryz.prog 265 _ (ReflectliteType.relation "AssignableTo" ReflectliteType.assignableTo) Tryz.func265 (by kernel_rfl) (by kernel_rfl) (by kernel_rfl) (by kernel_rfl)
  have h63 := @run_callFunc_extern Tryz.prog 153 _ (ReflectliteValue.method (ReflectliteValue.valueError "reflectlite.Value.Elem" 0) ReflectliteValue.elem) Tryz.func153 (by kernel_rfl) (by kernel_rfl) (by kernel_rfl) (by kernel_rfl)
  have h64 := @run_callFunc_extern Tryz.prog 154 _ ReflectliteValue.set Tryz.func154 (by kernel_rfl) (by kernel_rfl) (by kernel_rfl) (by kernel_rfl)
  have tO := as_typeOfF
  have mA := as_mAssign
  have aF := as_assignF
  have vF := as_unpackF
  have hVl := hV.lt
  have htl := hT.lt
  obtain ⟨ht0, hf0⟩ := hT.one
  have el := as_elemV ⟨V, 0, none⟩ ⟨t, 0, none⟩ (w.alloc (.cells #[.pointer (some ⟨2, 114, none⟩), .pointer (some ⟨V, 0, none⟩), .int .u64 150] 158)) ((hV.alloc _).one.1)
  have st := as_set (w.heap.size + 1) t c old ((w.alloc (.cells #[.pointer (some ⟨2, 114, none⟩), .pointer (some ⟨V, 0, none⟩), .int .u64 150] 158)).alloc (.cells #[.int .i64 c] 109))
    (by rw [World.cell?_alloc_at _ _ _ _ (by simp)]; rfl)
    (by rw [World.cell?_alloc_lt _ _ ⟨t, 0, none⟩ (by simp; omega), World.cell?_alloc_lt _ _ ⟨t, 0, none⟩ htl]; exact ht0)
    (by rw [World.frozen?_alloc_old _ _ ⟨t, 0, none⟩ (by simp; omega), World.frozen?_alloc_old _ _ ⟨t, 0, none⟩ (Nat.ne_of_lt htl)]; exact hf0)
  have HT := Lib.hid hT
  clear hV ht0 hf0 hT
  go_enter Tryz.func114, Tryz.ntmps114
  go_wp2
  refine wp_loop_rounds 1 ?_
  rw [rounds_succ]
  go_wp2
  go_ret
  refine ⟨rfl, ?_, ?_⟩
  · have ho := only_set w t 0 (.int .i64 c)
    have hb := below2 (w.setCell ⟨t, 0, none⟩ (.int .i64 c)) (.cells #[.pointer (some ⟨2, 114, none⟩), .pointer (some ⟨V, 0, none⟩), .int .u64 150] 158) (.cells #[.int .i64 c] 109)
    exact ho.past (hb.mono ho.size)
  · exact ((HT.out.setSelf (i := 0) (.int .i64 c)).alloc _).alloc _

set_option maxHeartbeats 4000000 in
theorem as_errors (c : Int) (t : Nat) (old : Value) (w : World) (hg : GlobE w) (hT : Has w t (.cells #[old] 109 (0, 0))) :
    Calls Tryz.prog 72 #[.iface 109 (.agg #[.int .i64 c]), .iface 114 (.pointer (some ⟨t, 0, none⟩))] w
      fun ev w' => ev = .returned (.bool true) ∧ Only t w w' ∧ Has w' t (.cells #[.int .i64 c] 109 (0, 0)) := by
  have h44 := @run_callFunc_extern Tryz.prog 111 _ (fun args => ReflectliteValue.unpack (args.getD 0 (.tuple #[]))) Tryz.func111 (by kernel_rfl) (by kernel_rfl) (by kernel_rfl) (by kernel_rfl)
  have h45 := @run_callFunc_extern Tryz.prog 112 _ (ReflectliteValue.methodAny (ReflectliteValue.valueError "reflectlite.Value.Type" 0) (fun t _ _ _ => ReflectliteType.toType t)) Tryz.func112 (by kernel_rfl) (by kernel_rfl) (by kernel_rfl) (by kernel_rfl)
  have h46 := @run_callFunc_extern Tryz.prog 113 _ (ReflectliteValue.method (ReflectliteValue.valueError "reflectlite.Value.IsNil" 0) ReflectliteValue.isNil) Tryz.func113 (by kernel_rfl) (by kernel_rfl) (by kernel_rfl) (by kernel_rfl)
  have hK := @run_callFunc_extern Tryz.prog 257 _ (ReflectliteType.abiMethod fun t => do pure (.int .u8 (← Rtype.kind t))) Tryz.func257 (by kernel_rfl) (by kernel_rfl) (by kernel_rfl) (by kernel_rfl)
  have hE := @run_callFunc_extern Tryz.prog 267 _ (ReflectliteType.method ReflectliteType.elem) Tryz.func267 (by kernel_rfl) (by kernel_rfl) (by kernel_rfl) (by kernel_rfl)
  have hI := @run_callFunc_extern Tryz.prog 268 _ (ReflectliteType.relation "Implements" ReflectliteType.implements_) Tryz.func268 (by kernel_rfl) (by kernel_rfl) (by kernel_rfl) (by kernel_rfl)
  have f6 := as_unpackP
  have f7 := as_typeP
  have mK := as_mKind
  have mE := as_mElem
  have mI := as_mImpl
  have kP := as_kindP
  have kF := as_kindF
  have eP := as_elemP
  have iF := as_implF
  have n8 := as_isNil ⟨w.heap.size, 0, none⟩ ⟨t, 0, none⟩ ((w.alloc (.cells #[.pointer (some ⟨t, 0, none⟩)] 114)).alloc (.cells #[.pointer (some ⟨2, 114, none⟩), .pointer (some ⟨w.heap.size, 0, none⟩), .int .u64 150] 158)) (by simp)
  have hg2 : GlobE ((w.alloc (.cells #[.pointer (some ⟨t, 0, none⟩)] 114)).alloc (.cells #[.pointer (some ⟨2, 114, none⟩), .pointer (some ⟨w.heap.size, 0, none⟩), .int .u64 150] 158)) := hg.later (below2 _ _ _)
  unfold GlobE at hg2
  have htl := hT.lt
  obtain ⟨ht0, hf0⟩ := hT.one
  have HB := Lib.hid (below2 w (.cells #[.pointer (some ⟨t, 0, none⟩)] 114) (.cells #[.pointer (some ⟨2, 114, none⟩), .pointer (some ⟨w.heap.size, 0, none⟩), .int .u64 150] 158))
  have HA := Lib.hid (as_as c t w.heap.size old ((w.alloc (.cells #[.pointer (some ⟨t, 0, none⟩)] 114)).alloc (.cells #[.pointer (some ⟨2, 114, none⟩), .pointer (some ⟨w.heap.size, 0, none⟩), .int .u64 150] 158)) ((Has.new _ _).alloc _) ((hT.alloc _).alloc _))
  clear ht0 hf0 hg hT
  go_enter Tryz.func72, Tryz.ntmps72
  go_wp2_with (go_at_call 114; refine HA.out.mono ?_; rintro e w1 ⟨rfl, ho, hc⟩)
  go_ret
  have hb := HB.out
  exact ⟨rfl, ⟨ho.os.trans hb.os, ho.tape.trans hb.tape, ho.output.trans hb.output, Nat.le_trans hb.size ho.size, fun k hk hne => (ho.block k (Nat.lt_of_lt_of_le hk hb.size) hne).trans (hb.block k hk)⟩, hc⟩
end Go.Proofs.YtnjlljdbghcobaaGreatDoor

/- caught, and what it defers. -/
namespace Go.Proofs.YtnjlljdbghcobaaGreatDoor
set_option maxRecDepth 100000
open Go.RowKit Go.Extern.Stop Go.Stop Go.Extern

theorem assert_err (c : Int) (W : World) : (Instr.typeAssert (.iface 109 (.agg #[.int .i64 c])) 20 111 true).run Tryz.prog W = .ok (.tuple #[.iface 109 (.agg #[.int .i64 c]), .bool true]) W := by kernel_rfl

set_option maxHeartbeats 2000000 in
theorem icatch_panicking (p : Nat) (c x : Int) (older : List PanicEntry) (w : World) (hg : GlobE w) (hp : Has w p (.cells #[.int .i64 x] 24 (0, 0))) :
    CallsD Tryz.prog 71 #[.pointer (some ⟨p, 0, none⟩)] (.panicking ({ v := .iface 109 (.agg #[.int .i64 c]), recovered := false } :: older)) w fun e u' w' =>
      e = .returned (.tuple #[]) ∧ u' = .panicking ({ v := .iface 109 (.agg #[.int .i64 c]), recovered := true } :: older) ∧ Only p w w' ∧ Has w' p (.cells #[.int .i64 c] 24 (0, 0)) := by
  refine callsD_of_wpS Tryz.func71 rfl fun c₀ cs hu => ?_
  apply wpS_seq
  apply wpS_region
  simp [wpOpsS, go_sem, recoverD, hu, Tryz.ntmps71, Exit.thenS, Array.replicate_succ, Array.replicate_zero]
  refine wpS_of_wp ?_
  have hT := Has.new w (.cells #[.int .i64 0] 109)
  have HA := Lib.hid (as_errors c w.heap.size (.int .i64 0) (w.alloc (.cells #[.int .i64 0] 109)) (hg.later (below1 _ _)) hT)
  have HP := Lib.hid hp
  have hpl := hp.lt
  have ha := assert_err c
  clear hT hp hg
  go_wp2_with fail
  refine HA.out.mono ?_
  rintro e w1 ⟨rfl, ho, hT1⟩
  have hP1 := (HP.out.alloc (.cells #[.int .i64 0] 109)).only ho (Nat.ne_of_lt hpl)
  obtain ⟨b0, b1⟩ := hP1.one
  obtain ⟨c0, c1⟩ := hT1.one
  have HO := Lib.hid ho
  have HP1 := Lib.hid hP1
  clear ho hT1 hP1 HA HP
  go_wp2_with fail
  simp [bodyPostS, results, Tryz.results71]
  exact ⟨⟨(only_set w1 p 0 (.int .i64 c)).os.trans HO.out.os, (only_set w1 p 0 (.int .i64 c)).tape.trans HO.out.tape, (only_set w1 p 0 (.int .i64 c)).output.trans HO.out.output, by have := HO.out.size; simp at this ⊢; omega, fun k hk hne => by
    rw [(only_set w1 p 0 (.int .i64 c)).block k (by have := HO.out.size; simp at this; omega) hne, HO.out.block k (by simp; omega) (by omega)]; exact Below.heap_alloc w _ k hk⟩, HP1.out.setSelf (i := 0) (.int .i64 c)⟩

theorem icatch_idle (p : Addr) (w : World) :
    CallsD Tryz.prog 71 #[.pointer (some p)] .returning w fun e u' w' => e = .returned (.tuple #[]) ∧ u' = .returning ∧ w' = w := by
  refine callsD_of_wpS Tryz.func71 rfl fun c₀ cs hu => ?_
  apply wpS_seq
  apply wpS_region
  simp [wpOpsS, go_sem, recoverD, hu, Tryz.ntmps71, Exit.thenS, Array.replicate_succ, Array.replicate_zero]
  refine wpS_of_wp ?_
  go_wp2
  cases c₀
  simp_all [bodyPostS, results, Tryz.results71]

set_option maxHeartbeats 1000000 in
theorem icaught_ok (F : FuncId) (caps : Array Value) (w : World) (Q : World → Prop) (hcall : ∀ args w, (callFunc F args).run Tryz.prog w = .ok (.enter F args) w)
    (hdo : Calls Tryz.prog F caps (w.alloc (.cells #[.int .i64 0] 24)) fun e w' => e = .returned (.tuple #[]) ∧ Has w' w.heap.size (.cells #[.int .i64 0] 24 (0, 0)) ∧ Q w') :
    Calls Tryz.prog 34 #[.func (.func F) #[] caps] w fun e w' => e = .returned (.int .i64 0) ∧ ∃ w2, Q w2 ∧ w' = w2.setCell ⟨w.heap.size, 0, none⟩ (.int .i64 0) := by
  have hmf : ∀ (fn : Fn) (first cap : Array Value) (w : World), (Instr.makeFunc fn first cap).run Tryz.prog w = .ok (.func fn first cap) w := fun _ _ _ _ => rfl
  have HD := Lib.hid hdo
  clear hdo
  go_enter_defers Tryz.func34, Tryz.ntmps34
  go_wp2_with fail
  refine HD.out.mono ?_
  clear HD
  rintro e w2 ⟨rfl, hx, hq⟩
  obtain ⟨c0, z0⟩ := hx.one
  have HQ := Lib.hid hq
  have HX := Lib.hid hx
  clear hx hq
  go_wp2
  refine leaves_cons (f := 71) (args := #[.pointer (some ⟨w.heap.size, 0, none⟩)]) (by simp) (by simp [go_sem]) ?_
  refine (icatch_idle ⟨w.heap.size, 0, none⟩ _).mono ?_
  rintro e u' w'' ⟨rfl, rfl, rfl⟩
  have c1 := ((HX.out.setSelf (i := 0) (.int .i64 0))).cell 0
  simp at c1
  simp [Leaves, settle, results, Tryz.results34, go_sem, c1]
  exact ⟨w2, HQ.out, rfl⟩

set_option maxHeartbeats 1000000 in
theorem icaught_bad (F : FuncId) (caps : Array Value) (w : World) (c : Int) (Q : World → Prop) (hcall : ∀ args w, (callFunc F args).run Tryz.prog w = .ok (.enter F args) w)
    (hdo : Calls Tryz.prog F caps (w.alloc (.cells #[.int .i64 0] 24)) fun e w' => e = .panicked (Pai c) ∧ Has w' w.heap.size (.cells #[.int .i64 0] 24 (0, 0)) ∧ GlobE w' ∧ Q w') :
    Calls Tryz.prog 34 #[.func (.func F) #[] caps] w fun e w' => e = .returned (.int .i64 c) ∧ ∃ w2, Q w2 ∧ Only w.heap.size w2 w' := by
  have hmf : ∀ (fn : Fn) (first cap : Array Value) (w : World), (Instr.makeFunc fn first cap).run Tryz.prog w = .ok (.func fn first cap) w := fun _ _ _ _ => rfl
  have HD := Lib.hid hdo
  clear hdo
  go_enter_defers Tryz.func34, Tryz.ntmps34
  go_wp2_with fail
  refine HD.out.mono ?_
  clear HD
  rintro e w2 ⟨rfl, hx, hg, hq⟩
  have HQ := Lib.hid hq
  have HX := Lib.hid hx
  have HG := Lib.hid hg
  clear hx hq hg
  unfold Pai
  refine leaves_cons (f := 71) (args := #[.pointer (some ⟨w.heap.size, 0, none⟩)]) (by simp) (by simp [go_sem]) ?_
  refine (icatch_panicking w.heap.size c 0 [] _ HG.out HX.out).mono ?_
  rintro e u' w'' ⟨rfl, rfl, ho, hx⟩
  have c1 := hx.one.1
  simp [Leaves, settle, results, Tryz.results34, go_sem, c1]
  exact ⟨w2, HQ.out, ho⟩
end Go.Proofs.YtnjlljdbghcobaaGreatDoor

/- Contract of bits.Of. -/
namespace Go.Proofs.YtnjlljdbghcobaaGreatDoor
set_option maxRecDepth 100000
open Go.RowKit

set_option maxHeartbeats 1000000 in
theorem ext_nil (l : List Bool) (f : Nat → Bool) (a : Option Addr) (len cap N k m : Nat) (w : World)
    (hs : Sl w (.slice a len cap) (Bs.pack l)) (hl : Hid (N = l.length)) (hN : N ≤ 1125899906842624) (hk : k ≤ 1125899906842624) (hm : Hid ((N + k + 7) / 8 = m)) (hk0 : k ≤ 0) :
    Calls Tryz.prog 70 #[.agg #[.slice a len cap, .int .i64 N], .int .i64 k, .nilFunc] w (ExtPost w l f k m) := by
  have hmk := run_make_row' (P := Tryz.prog) 22 5 (.int .u8 0) 1 Tryz.underlying22 Tryz.infoU8 rfl .i64 .i64 m (by have := hm.out; omega) (by have := hm.out; omega)
  have hsz : Hid ((((N : Int) + (k : Int)) / 8 + (((N : Int) + (k : Int)) % 8 + 7) / 8) = (m : Int)) := by
    show _ = _
    rw [← hm.out]; omega
  have hA : 0 ≤ (N : Int) + (k : Int) := by omega
  have hB : (N : Int) + (k : Int) ≤ 9223372036854775807 := by omega
  have hs' := Lib.hid hs
  clear hs
  go_enter Tryz.func70, Tryz.ntmps70
  go_upto_region 1 with fail
  go_cut [7] (fun s7 wx => Laid ((w.alloc (.cells #[.slice a len cap, .int .i64 N] 36)).alloc (.cells #[.slice none 0 0, .int .i64 0] 36)) wx s7 m N)
  case first =>
    have hwr : IntKind.i64.wrap ((N : Int) + (k : Int)) = (N : Int) + (k : Int) := IntWalk.i64_in _ (by omega)
    clear hs' hl
    go_region_held3 (fun wx => wx.cell? ⟨w.heap.size, 1, none⟩ = some (.int .i64 (N : Int))) (go_keep) (first | (go_at_call 109; go_fit (size_is ((N : Int) + (k : Int)) (m : Int) hA hB hsz _); rintro e w' ⟨rfl, rfl⟩))
    all_goals (go_wp2_with fail; go_meet; first | exact Laid.one _ m N (w.heap.size + 1 + 1) (by simp) | exact Laid.two _ m N (w.heap.size + 1 + 1) (by simp))
  case rest =>
    clear hmk hsz hA hB
    obtain ⟨R, g, rfl, hRB, hgB, hne, hsz2, hR, hg, hbox, hres, hb1⟩ := hcut.facts
    clear hcut
    have c0 := cell_of_block hbox 0
    have c1 := cell_of_block hR 0
    simp only [List.getElem?_toArray, List.getElem?_cons_zero] at c0 c1
    have hs2 : Sl wc (.slice a len cap) (Bs.pack l) := hs'.out.later hb1
    have hlen : len = (N + 7) / 8 := by rw [hs2.len.1, Bs.pack_length, hl.out]
    have hmN : (N + 7) / 8 ≤ m := by have := hm.out; omega
    have hn : (vb (Bs.pack l)).length = Nat.min len m := by
      rw [vb_length, Bs.pack_length, ← hl.out]
      show _ = min len m
      omega
    have hpos : 0 < (vb (Bs.pack l)).length → some (⟨g, 0, none⟩ : Addr) = some ⟨g, 0, none⟩ ∧ ∃ ad, a = some ad ∧ ∀ j v, (vb (Bs.pack l))[j]? = some v → wc.cell? (ad.add j) = some v := fun h =>
      ⟨rfl, hs2.cells (by rw [vb_length, Bs.pack_length, ← hl.out] at h; omega)⟩
    have hfit : 0 + (vb (Bs.pack l)).length ≤ (vb (Bs.packTo m [])).length := by
      rw [vb_length, vb_length, Bs.pack_length, Bs.packTo_length, ← hl.out]; omega
    have H1 := Lib.hid hg
    have H2 := Lib.hid hR
    have H3 := Lib.hid hbox
    have H4 := Lib.hid hn
    have H5 := Lib.hid hpos
    have H6 := Lib.hid hfit
    have H7 := Lib.hid hlen
    have H8 := Lib.hid hs2
    have H9 := Lib.hid hres
    have H10 := Lib.hid hb1
    clear hg hR hbox hn hpos hfit hlen hs2 hres hb1
    go_wp2_with (with_reducible refine wpList_copy_only rfl (.tmp 20) (.tmp 22) 22 22 rfl 5 Tryz.underlying22 (by kernel_rfl) (some ⟨g, 0, none⟩) a m m len cap rfl rfl g 0 (vb (Bs.packTo m [])) 5 H1.out (vb (Bs.pack l)) H4.out H5.out H6.out (oneCell_vb _) ?_; intro w2 hg2 ho2)
    have HR2 : Hid (w2.heap[R]? = some (rowObj g m (more l f 0).length)) := by
      show _ = _
      rw [ho2.block R (lt_of_block H2.out) hne, more_zero, ← hl.out]; exact H2.out
    have HG2 : Hid (w2.heap[g]? = some (bytesObj (Bs.packTo m (more l f 0)))) := by
      show _ = _
      rw [more_zero]
      have e := splice_zero m l (by rw [← hl.out]; exact hmN)
      have h := hg2.out
      rw [e] at h
      exact h
    have HB2 : Hid (Below w.heap.size w w2) := ho2.below H10.out (by omega) (by omega)
    have HE2 : Hid (w2.heap[w.heap.size + 1]? = some (.cells #[.slice none 0 0, .int .i64 0] 36 (0, 0))) := by
      show _ = _
      rw [ho2.block _ (by omega) (by omega)]; exact H9.out
    clear hg2 ho2 H1 H2 H3 H4 H5 H6 H7 H8 H9 H10 c0 c1
    go_loopw [26] (fun s26 wr => ∃ i : Nat, i ≤ k ∧ s26 = .int .i64 i ∧ Hid (wr.heap[R]? = some (rowObj g m (more l f i).length)) ∧ Hid (wr.heap[g]? = some (bytesObj (Bs.packTo m (more l f i)))) ∧ Hid (Below (w.heap.size + 2) w2 wr))
      (fun s _ => k - (intOf s).toNat)
    case atStart => exact ⟨0, Nat.zero_le _, rfl, HR2, HG2, Below.refl _ _⟩
    case round =>
      obtain ⟨i, hi, rfl, KR, KG, KB⟩ := hrel
      by_cases hlt : i < k
      · omega
      · obtain rfl : i = k := by omega
        have c0 : wr.cell? ⟨R, 0, none⟩ = some (.slice (some ⟨g, 0, none⟩) m m) := by rw [cell_of_block KR.out]; rfl
        have c1 : wr.cell? ⟨R, 1, none⟩ = some (.int .i64 ((more l f i).length : Int)) := by rw [cell_of_block KR.out]; rfl
        have KE : wr.heap[w.heap.size + 1]? = some (.cells #[.slice none 0 0, .int .i64 0] 36 (0, 0)) := (KB.out.block _ (by omega)).trans HE2.out
        have f0 := free_of_block KE 0
        have f1 := free_of_block KE 1
        have e0 : wr.cell? ⟨w.heap.size + 1, 0, none⟩ = some (.slice none 0 0) := by rw [cell_of_block KE]; rfl
        have e1 : wr.cell? ⟨w.heap.size + 1, 1, none⟩ = some (.int .i64 0) := by rw [cell_of_block KE]; rfl
        have KE' := Lib.hid KE
        clear KE
        go_wp2
        refine bodyPost_ret (v := .agg #[.slice (some ⟨g, 0, none⟩) m m, .int .i64 ((more l f i).length : Int)]) (by simp [results, Tryz.results70, go_sem, e0, e1]) rfl ⟨g, rfl, by omega, ?_, ?_⟩
        · rw [Below.heap_setCell _ _ _ _ (by show g ≠ w.heap.size + 1; omega), Below.heap_setCell _ _ _ _ (by show g ≠ w.heap.size + 1; omega)]
          exact KG.out
        · exact ((HB2.out.trans (KB.out.mono (by omega))).setCell (by show w.heap.size ≤ w.heap.size + 1; omega) _).setCell (by show w.heap.size ≤ w.heap.size + 1; omega) _

theorem ext_nil_is (l : List Bool) (q : Int) (a : Option Addr) (len cap N : Nat) (w : World) (hs : Sl w (.slice a len cap) (Bs.pack l)) (hl : Hid (N = l.length)) (hN : N ≤ 1125899906842624) (hq : Hid (q = (N : Int))) :
    Calls Tryz.prog 70 #[.agg #[.slice a len cap, .int .i64 q], .int .i64 0, .nilFunc] w (ExtPost w l (fun _ => false) 0 ((N + 0 + 7) / 8)) := by
  rw [hq.out]
  exact ext_nil l (fun _ => false) a len cap N 0 ((N + 0 + 7) / 8) w hs hl hN (by omega) rfl (by omega)

/-- The row that is answered, no error beside it. -/
def OneRow (w : World) (l : List Bool) (e : Ending) (w' : World) : Prop :=
  ∃ g m : Nat, e = .returned (.agg #[.slice (some ⟨g, 0, none⟩) m m, .int .i64 (l.length : Int)]) ∧ m = (l.length + 7) / 8 ∧ w.heap.size ≤ g ∧ Has w' g (bytesObj (Bs.pack l)) ∧ Below w.heap.size w w'

theorem ExtPost.pack {w w' : World} {l : List Bool} {f : Nat → Bool} {k m : Nat} {e : Ending} (h : ExtPost w l f k m e w') (hm : m = (l.length + k + 7) / 8) : OneRow w (more l f k) e w' := by
  obtain ⟨g, he, hg, hh, hb⟩ := h
  refine ⟨g, m, he, by rw [hm, more_length], hg, ?_, hb⟩
  have e2 : Bs.pack (more l f k) = Bs.packTo m (more l f k) := by unfold Bs.pack; rw [more_length, hm]
  rw [e2]
  exact hh

set_option maxHeartbeats 1000000 in
theorem of_any (a : Option Addr) (len cap : Nat) (l : List Bool) (w : World) (hs : Sl w (.slice a len cap) (Bs.pack l)) (hl : Hid (8 * len = l.length)) (hlen : len ≤ 140737488351232) :
    Calls Tryz.prog 33 #[.slice a len cap] w (OneRow w l) := by
  have HS := Lib.hid hs
  clear hs
  have hq : Hid ((8 : Int) * (len : Int) = ((8 * len : Nat) : Int)) := by show _ = _; omega
  have hk1 := Has.new w (.cells #[.slice none 0 0, .int .i64 0] 36)
  go_enter Tryz.func33, Tryz.ntmps33
  go_wp2_with fail
  refine (ext_nil_is l _ a len cap (8 * len) _ (HS.out.later (below2 _ _ _)) hl (by omega) hq).mono ?_
  rintro e w1 h1
  obtain ⟨g, m, rfl, hm, hg, hh, hb⟩ := h1.pack (by rw [← hl.out])
  obtain ⟨k1, k2, kb, ks⟩ := facts2 hb
  have HH := Lib.hid hh
  have HM := Lib.hid hm
  have hg' : w.heap.size + 2 ≤ g := by simpa using hg
  clear hb hh h1 hg hm hk1
  obtain ⟨c0, c1, f0, f1⟩ := k1.two
  go_wp2
  refine bodyPost_ret (v := .agg #[.slice (some ⟨g, 0, none⟩) m m, .int .i64 ((more l (fun _ => false) 0).length : Int)]) (by simp [results, Tryz.results33, go_sem, c0, c1]) rfl ⟨g, m, ?_, ?_, by omega, ?_, set2_below kb _ (Nat.le_refl _) _ _⟩
  · rw [more_zero]
  · rw [HM.out, more_zero]
  · refine Has.set (Has.set ?_ (by show g ≠ w.heap.size; omega) _) (by show g ≠ w.heap.size; omega) _
    rw [← more_zero l (fun _ => false)]
    exact HH.out
end Go.Proofs.YtnjlljdbghcobaaGreatDoor

/- Contract of inflate.Decode. -/
namespace Go.Proofs.YtnjlljdbghcobaaGreatDoor
set_option maxRecDepth 100000
open Go.RowKit

/-- What Decode answers. -/
def DecPost (w : World) (res : List Nat × Nat × Int) (e : Ending) (w' : World) : Prop :=
  ∃ v, e = .returned (.tuple #[v, .int .i64 (res.2.1 : Int), .int .i64 res.2.2]) ∧ w'.ownsRow w.heap.size 5 1 v res.1.length (vb res.1) ∧ Below w.heap.size w w' ∧ (∀ x ∈ res.1, x < 256) ∧ res.1.length ≤ 65536

set_option maxHeartbeats 4000000 in
theorem decode_arg (b : Value) (l : List Bool) (most : Int) (w : World) (hm : most < 0 ∨ 65536 < most) :
    Calls Tryz.prog 15 #[b, .int .i64 most] w (DecPost w (If.decode l most)) := by
  have e : If.decode l most = ([], 0, 2) := by unfold If.decode; rw [if_pos hm]
  rw [e]
  clear e
  rcases hm with hm | hm
  · have d1 : decide (most < 0) = true := by simpa using hm
    go_enter Tryz.func15, Tryz.ntmps15
    go_wp2
    refine bodyPost_ret (v := .tuple #[.slice none 0 0, .int .i64 0, .int .i64 2]) (by simp [results, Tryz.results15, go_sem]) rfl ⟨.slice none 0 0, rfl, ⟨rfl, Or.inl ⟨rfl, rfl⟩⟩, below1 _ _, fun x hx => (nomatch hx), Nat.zero_le _⟩
  · have d1 : decide (most < 0) = false := by simp; omega
    have d2 : decide (65536 < most) = true := by simpa using hm
    go_enter Tryz.func15, Tryz.ntmps15
    go_wp2
    refine bodyPost_ret (v := .tuple #[.slice none 0 0, .int .i64 0, .int .i64 2]) (by simp [results, Tryz.results15, go_sem]) rfl ⟨.slice none 0 0, rfl, ⟨rfl, Or.inl ⟨rfl, rfl⟩⟩, below1 _ _, fun x hx => (nomatch hx), Nat.zero_le _⟩

/-- The reader and its row's bytes, laid in whatever order. -/
def RdLaid (W wx : World) (s8 : Value) (l : List Bool) (N most : Nat) : Prop :=
  ∃ R g m : Nat, s8 = .pointer (some ⟨R, 0, none⟩) ∧ W.heap.size ≤ R ∧ W.heap.size ≤ g ∧ R ≠ g ∧ Has wx R (rdi (.slice (some ⟨g, 0, none⟩) m m) N most (.slice none 0 0) ⟨0, [], .pointer none, .pointer none⟩) ∧ Has wx g (bytesObj (Bs.pack l)) ∧ m = (l.length + 7) / 8 ∧ Below W.heap.size W wx

theorem RdLaid.one {W0 w1 : World} {g m N most : Nat} {l : List Bool} (hN : N = l.length) (hmm : m = (l.length + 7) / 8) (hgg : W0.drew.heap.size ≤ g) (hx : Has w1 g (bytesObj (Bs.pack l))) (hb : Below W0.drew.heap.size W0.drew w1) :
    RdLaid W0 (w1.alloc (.cells #[.slice (some ⟨g, 0, none⟩) m m, .int .i64 (l.length : Int), .int .i64 0, .slice none 0 0, .int .i64 0, .int .i64 (most : Int), .pointer none, .pointer none] 64)) (.pointer (some ⟨w1.heap.size, 0, none⟩)) l N most := by
  subst hN
  have hlt := hx.lt
  have hbb : Below W0.heap.size W0 w1 := ⟨hb.os, hb.tape, hb.output, hb.size, hb.block⟩
  exact ⟨w1.heap.size, g, m, rfl, hbb.size, hgg, by omega, Has.new w1 _, hx.alloc _, hmm, hbb.alloc hbb.size _⟩
abbrev zr : Obj := .cells #[.slice none 0 0, .int .i64 0, .int .i64 0, .slice none 0 0, .int .i64 0, .int .i64 0, .pointer none, .pointer none] 64
theorem RdLaid.two {W0 w1 : World} {g m N most : Nat} {l : List Bool} (hN : N = l.length) (hmm : m = (l.length + 7) / 8) (hgg : (W0.alloc zr).drew.heap.size ≤ g) (hx : Has w1 g (bytesObj (Bs.pack l))) (hb : Below (W0.alloc zr).drew.heap.size (W0.alloc zr).drew w1) (hz : Has w1 W0.heap.size zr) :
    RdLaid W0 ((((((((w1.setCell ⟨W0.heap.size, 0, none⟩ (.slice (some ⟨g, 0, none⟩) m m)).setCell ⟨W0.heap.size, 1, none⟩ (.int .i64 (l.length : Int))).setCell ⟨W0.heap.size, 2, none⟩ (.int .i64 0)).setCell ⟨W0.heap.size, 3, none⟩ (.slice none 0 0)).setCell ⟨W0.heap.size, 4, none⟩ (.int .i64 0)).setCell ⟨W0.heap.size, 5, none⟩ (.int .i64 (most : Int))).setCell ⟨W0.heap.size, 6, none⟩ (.pointer none)).setCell ⟨W0.heap.size, 7, none⟩ (.pointer none)) (.pointer (some ⟨W0.heap.size, 0, none⟩)) l N most := by
  subst hN
  have hg2 : W0.heap.size + 1 ≤ g := by simpa using hgg
  have hbb : Below W0.heap.size W0 w1 := (below1 W0 zr).trans (Below.mono (show Below (W0.alloc zr).heap.size (W0.alloc zr) w1 from ⟨hb.os, hb.tape, hb.output, hb.size, hb.block⟩) (by simp))
  have h8 := (((((((hz.setSelf (i := 0) (.slice (some ⟨g, 0, none⟩) m m)).setSelf (i := 1) (.int .i64 (l.length : Int))).setSelf (i := 2) (.int .i64 0)).setSelf (i := 3) (.slice none 0 0)).setSelf (i := 4) (.int .i64 0)).setSelf (i := 5) (.int .i64 (most : Int))).setSelf (i := 6) (.pointer none)).setSelf (i := 7) (.pointer none)
  have hO := ((((((((only_set w1 W0.heap.size 0 (.slice (some ⟨g, 0, none⟩) m m)).trans (only_set _ W0.heap.size 1 (.int .i64 (l.length : Int)))).trans (only_set _ W0.heap.size 2 (.int .i64 0))).trans (only_set _ W0.heap.size 3 (.slice none 0 0))).trans (only_set _ W0.heap.size 4 (.int .i64 0))).trans (only_set _ W0.heap.size 5 (.int .i64 (most : Int)))).trans (only_set _ W0.heap.size 6 (.pointer none))).trans (only_set _ W0.heap.size 7 (.pointer none)))
  refine ⟨W0.heap.size, g, m, rfl, Nat.le_refl _, by omega, by omega, ?_, hx.only hO (by omega), hmm, hO.below hbb (Nat.le_refl _) hbb.size⟩
  simpa [rdi, If.tell] using h8

theorem rd8 {w : World} {R : Nat} {a b c d e f g h : Value} {t : TypeId} (hh : Has w R (.cells #[a, b, c, d, e, f, g, h] t (0, 0))) :
    (w.cell? ⟨R, 0, none⟩ = some a ∧ w.cell? ⟨R, 1, none⟩ = some b ∧ w.cell? ⟨R, 2, none⟩ = some c ∧ w.cell? ⟨R, 3, none⟩ = some d ∧ w.cell? ⟨R, 4, none⟩ = some e ∧ w.cell? ⟨R, 5, none⟩ = some f ∧ w.cell? ⟨R, 6, none⟩ = some g ∧ w.cell? ⟨R, 7, none⟩ = some h) ∧
    (w.frozen? ⟨R, 0, none⟩ = false ∧ w.frozen? ⟨R, 1, none⟩ = false ∧ w.frozen? ⟨R, 2, none⟩ = false ∧ w.frozen? ⟨R, 3, none⟩ = false ∧ w.frozen? ⟨R, 4, none⟩ = false ∧ w.frozen? ⟨R, 5, none⟩ = false ∧ w.frozen? ⟨R, 6, none⟩ = false ∧ w.frozen? ⟨R, 7, none⟩ = false) :=
  ⟨⟨by rw [hh.cell]; rfl, by rw [hh.cell]; rfl, by rw [hh.cell]; rfl, by rw [hh.cell]; rfl, by rw [hh.cell]; rfl, by rw [hh.cell]; rfl, by rw [hh.cell]; rfl, by rw [hh.cell]; rfl⟩,
   hh.free 0, hh.free 1, hh.free 2, hh.free 3, hh.free 4, hh.free 5, hh.free 6, hh.free 7⟩

theorem cell_set8 {w : World} {b R : Nat} {v : Value} (hne : b ≠ R) (h : w.cell? ⟨b, 0, none⟩ = some v) (x0 x1 x2 x3 x4 x5 x6 x7 : Value) :
    ((((((((w.setCell ⟨R, 0, none⟩ x0).setCell ⟨R, 1, none⟩ x1).setCell ⟨R, 2, none⟩ x2).setCell ⟨R, 3, none⟩ x3).setCell ⟨R, 4, none⟩ x4).setCell ⟨R, 5, none⟩ x5).setCell ⟨R, 6, none⟩ x6).setCell ⟨R, 7, none⟩ x7).cell? ⟨b, 0, none⟩ = some v := by
  have key : ∀ (w : World) (i : Nat) (x : Value), (w.setCell ⟨R, i, none⟩ x).cell? ⟨b, 0, none⟩ = w.cell? ⟨b, 0, none⟩ := fun w i x => cell_of_heap (Below.heap_setCell w ⟨R, i, none⟩ x b hne) 0
  rw [key, key, key, key, key, key, key, key]
  exact h
end Go.Proofs.YtnjlljdbghcobaaGreatDoor

/- Contract of what inflate.Decode has caught. -/
namespace Go.Proofs.YtnjlljdbghcobaaGreatDoor
set_option maxRecDepth 100000
open Go.RowKit

theorem own_base_le {w : World} {base base' : Nat} {e : TypeId} {size : Nat} {v : Value} {n : Nat} {xs : List Value} (h : w.ownsRow base e size v n xs) (hb : base' ≤ base) : w.ownsRow base' e size v n xs := by
  refine ⟨h.1, ?_⟩
  rcases h.2 with h2 | ⟨g, cap, cur, hv, hg, r⟩
  · exact Or.inl h2
  · exact Or.inr ⟨g, cap, cur, hv, by omega, r⟩

set_option maxHeartbeats 8000000 in
theorem dec1_any {K0 : Nat → Prop} {R : Nat} {s : Value} {l : List Bool} {N most : Nat} {w : World} {r : Rv} (M D : Nat) (hX : Sx K0 R s l N most w r) (hM : Has w M (.cells #[.int .i64 (most : Int)] 3 (0, 0))) (hD : Has w D (.cells #[.slice none 0 0] 22 (0, 0))) (kM : K0 M) (kD : K0 D)
    (hl : Hid (N = l.length)) (hN : N ≤ 2251799813685248) (h8 : Hid (N % 8 = 0)) (hm : most ≤ 65536) (k : Nat) (hk : N < r.p + k) (fin : List Nat × Nat × Int) (hfin : Hid (Unit → If.blocks l most k (If.tell r.ts) r.p = fin)) :
    Calls Tryz.prog 35 #[.pointer (some ⟨R, 0, none⟩), .pointer (some ⟨M, 0, none⟩), .pointer (some ⟨D, 0, none⟩)] w (fun e w' =>
      (fin.2.2 ≠ 0 ∧ e = .panicked (Pai fin.2.2) ∧ Fr K0 w w') ∨
      (fin.2.2 = 0 ∧ e = .returned (.tuple #[]) ∧ Fr (fun k => K0 k ∧ k ≠ D) w w' ∧ ∃ v, Has w' D (.cells #[v] 22 (0, 0)) ∧ w'.ownsRow w.heap.size 5 1 v fin.1.length (vb fin.1) ∧ w'.cell? ⟨R, 2, none⟩ = some (.int .i64 (fin.2.1 : Int)) ∧ (∀ x ∈ fin.1, x < 256) ∧ fin.1.length ≤ 65536)) := by
  have HST := Lib.hid (stream_any hX hl hN h8 hm k hk fin hfin)
  have HM := Lib.hid hM
  have HD := Lib.hid hD
  have HLT := Lib.hid hX.lt
  have KM := Lib.hid kM
  have KD := Lib.hid kD
  clear hX hM hD hk hfin kM kD
  obtain ⟨fo, fp, c⟩ := fin
  simp only
  go_enter Tryz.func35, Tryz.ntmps35
  go_wp2_with fail
  refine HST.out.mono ?_
  clear HST
  intro e w1 ho
  by_cases hc : c = 0
  · subst hc
    unfold BlkPost at ho
    obtain ⟨rfl, ⟨r', hp', ht', hX'⟩, hf⟩ := ho.ok
    obtain ⟨K, hK, hS, _⟩ := hX'
    obtain ⟨tv, hx, hown, hnk⟩ := hS.has
    obtain ⟨_, _, e2, e3, _⟩ := rdi_cells hx
    have hM1 : Has w1 M (.cells #[.int .i64 (most : Int)] 3 (0, 0)) := (hf.block M KM.out).trans HM.out
    have hD1 : Has w1 D (.cells #[.slice none 0 0] 22 (0, 0)) := (hf.block D KD.out).trans HD.out
    obtain ⟨m0, _⟩ := hM1.one
    have HEX := Lib.hid (expand_ok tv r'.ts most w1 hown hS.toks hS.le hm)
    have HX := Lib.hid hx
    have HBY := Lib.hid (If.tell_bytes hS.toks)
    have HLE := Lib.hid (Nat.le_trans hS.le hm)
    have HF := Lib.hid hf
    have HD1 := Lib.hid hD1
    have HRD : Hid (R ≠ D) := fun e => hS.ne (e ▸ hK D KD.out)
    have HP := Lib.hid (fun _ : Unit => hp')
    have HT := Lib.hid (fun _ : Unit => ht')
    clear ho hp' ht' hS hx hown hnk hK hf hM1 hD1 e2
    go_wp2_with fail
    refine HEX.out.mono ?_
    clear HEX
    rintro e w2 ⟨v, rfl, hov, hb2⟩
    obtain ⟨av, nv, cv, rfl⟩ : ∃ a n c, v = .slice a n c := by obtain ⟨a, c, h⟩ := own_shape hov; exact ⟨a, _, c, h⟩
    have hD2 := HD1.out.later hb2
    obtain ⟨q0, z0⟩ := hD2.one
    have HOV := Lib.hid hov
    have HB2 := Lib.hid hb2
    have HD2 := Lib.hid hD2
    clear hov hb2 hD2 m0 e3
    go_wp2_with fail
    refine (ineedBytes_ok _ _).mono ?_
    rintro e w2' ⟨rfl, rfl⟩
    go_wp2
    have hO := only_set w2 D 0 (.slice av nv cv)
    have hsz := HF.out.size
    have hszz := HB2.out.size
    refine ⟨rfl, .tuple #[], by simp [results, Tryz.results35, go_sem], rfl, ?_, _, HD2.out.setSelf (i := 0) (.slice av nv cv), ?_, ?_, by rw [← HT.out ()]; exact HBY.out, by rw [← HT.out ()]; exact HLE.out⟩
    · exact ⟨hO.os.trans (HB2.out.os.trans HF.out.os), hO.tape.trans (HB2.out.tape.trans HF.out.tape), hO.output.trans (HB2.out.output.trans HF.out.output), Nat.le_trans hsz (Nat.le_trans hszz hO.size), fun k hk => by
        have hl := HLT.out k hk.1
        rw [hO.block k (by omega) hk.2, HB2.out.block k (by omega)]
        exact HF.out.block k hk.1⟩
    · have h1 := HOV.out
      rw [HT.out ()] at h1
      exact own_base_le (own_only h1 hO HD1.out.lt) hsz
    · have h1 := (HX.out.later HB2.out).only hO HRD.out
      have := (rdi_cells h1).2.2.1
      rw [HP.out ()] at this
      exact this
  · unfold BlkPost at ho
    have e4 := ho.2.2 hc
    subst e4
    exact ⟨rfl, Or.inl ⟨hc, rfl, ho.1⟩⟩
end Go.Proofs.YtnjlljdbghcobaaGreatDoor
