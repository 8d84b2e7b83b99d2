/- Contracts of inflate's reader: block, stream. -/
import Derived.Test.YtnjlljdbghcobaaGreatDoorIdyn2
import Derived.Test.YtnjlljdbghcobaaGreatDoorIst
import Derived.Defers
import Derived.Recover
import Derived.LaidEql
import Derived.Stop.Asserts
import Derived.RowKitTokens

namespace Go.Proofs.YtnjlljdbghcobaaGreatDoor
set_option maxRecDepth 100000
open Go.RowKit

theorem Sx.place {K : Nat → Prop} {R : Nat} {s : Value} {l : List Bool} {N most : Nat} {w : World} {r : Rv} (h : Sx K R s l N most w r) : placeOf R w = r.p := by obtain ⟨_, _, h, _⟩ := h; exact h.place
theorem Sx.pn {K : Nat → Prop} {R : Nat} {s : Value} {l : List Bool} {N most : Nat} {w : World} {r : Rv} (h : Sx K R s l N most w r) : r.p ≤ N := by obtain ⟨_, _, h, _⟩ := h; exact h.pn
theorem Sx.lt {K : Nat → Prop} {R : Nat} {s : Value} {l : List Bool} {N most : Nat} {w : World} {r : Rv} (h : Sx K R s l N most w r) : ∀ k, K k → k < w.heap.size := by obtain ⟨_, h1, h, _⟩ := h; exact fun k hk => h.lt k (h1 k hk)

theorem sx_num {K : Nat → Prop} {R : Nat} {s : Value} {l : List Bool} {N most : Nat} {w : World} {r : Rv} (n : Nat) (hX : Sx K R s l N most w r) (hl : Hid (N = l.length)) (hN : N ≤ 2251799813685248) (hn : n ≤ 32) :
    Calls Tryz.prog 73 #[.pointer (some ⟨R, 0, none⟩), .int .i64 (n : Int)] w (Out K w (numE N r.p n) (.int .i64 (Hd.num l r.p n : Int)) (fun w' => Sx K R s l N most w' { r with p := r.p + n })) := by
  obtain ⟨K1, hK, hS, hT⟩ := hX
  refine (inum_any n hS hl hN hn).mono ?_
  intro e w' ho
  refine ⟨ho.1.mono hK, fun hc => ?_, ho.2.2⟩
  obtain ⟨e1, e2⟩ := ho.2.1 hc
  exact ⟨e1, K1, hK, e2, hT.fr ho.1⟩

/-- What reads a block of a kind. -/
def rdF (kind : Nat) : FuncId := if kind = 0 then 117 else if kind = 1 then 118 else 119

set_option maxHeartbeats 1000000 in
theorem block_fn (R kind : Nat) (hk : kind < 3) (w : World) : Calls Tryz.prog 74 #[.pointer (some ⟨R, 0, none⟩), .int .i64 (kind : Int)] w fun e w' => e = .returned (.func (.func (rdF kind)) #[.pointer (some ⟨R, 0, none⟩)] #[]) ∧ w = w' := by
  have hmf : ∀ (fn : Fn) (first cap : Array Value) (w : World), (Instr.makeFunc fn first cap).run Tryz.prog w = .ok (.func fn first cap) w := fun _ _ _ _ => rfl
  match kind, hk with
  | 0, _ =>
    show Calls Tryz.prog _ #[_, .int .i64 0] w _
    go_enter Tryz.func74, Tryz.ntmps74
    go_wp2
    go_ret
    exact ⟨rfl, rfl⟩
  | 1, _ =>
    show Calls Tryz.prog _ #[_, .int .i64 1] w _
    go_enter Tryz.func74, Tryz.ntmps74
    go_wp2
    go_ret
    exact ⟨rfl, rfl⟩
  | 2, _ =>
    show Calls Tryz.prog _ #[_, .int .i64 2] w _
    go_enter Tryz.func74, Tryz.ntmps74
    go_wp2
    go_ret
    exact ⟨rfl, rfl⟩
set_option maxHeartbeats 1000000 in
theorem block_bad (R : Nat) (w : World) : Calls Tryz.prog 74 #[.pointer (some ⟨R, 0, none⟩), .int .i64 3] w fun e w' => e = .panicked (Pai 13) ∧ w = w' := by
  go_enter Tryz.func74, Tryz.ntmps74
  go_wp2
  exact ⟨rfl, rfl, rfl⟩

namespace If
/-- A block of a kind, behind its three bits. -/
noncomputable def kindB (l : List Bool) (most kind p : Nat) (out : List Nat) : List Nat × Nat × Int :=
  if kind = 0 then stored l most p out else if kind = 1 then syms l fixL fixD most (l.length + 1) out p else dynamic l most p out
theorem block_is (l : List Bool) (most p : Nat) (out : List Nat) (h : p + 3 ≤ l.length) : block l most p out = if Hd.num l (p + 1) 2 < 3 then kindB l most (Hd.num l (p + 1) 2) (p + 3) out else ([], 0, 13) := by
  unfold block kindB
  rw [if_neg (by omega)]
  have h4 := Hd.num_lt l (p + 1) 2
  generalize Hd.num l (p + 1) 2 = k at h4 ⊢
  by_cases h0 : k = 0
  · rw [if_pos h0, if_pos (by omega), if_pos h0]
  by_cases h1 : k = 1
  · rw [if_neg h0, if_pos h1, if_pos (by omega), if_neg h0, if_pos h1]
  by_cases h2 : k = 2
  · rw [if_neg h0, if_neg h1, if_pos h2, if_pos (by omega), if_neg h0, if_neg h1]
  rw [if_neg h0, if_neg h1, if_neg h2, if_neg (by omega)]
end If

theorem kind_any {K0 : Nat → Prop} {R : Nat} {s : Value} {l : List Bool} {N most : Nat} {w : World} {r : Rv} (kind : Nat) (hX : Sx K0 R s l N most w r) (hl : Hid (N = l.length)) (hN : N ≤ 2251799813685248) (h8 : Hid (N % 8 = 0)) (hm : most ≤ 65536)
    (res : List Nat × Nat × Int) (hres : Hid (Unit → If.kindB l most kind r.p (If.tell r.ts) = res)) :
    Calls Tryz.prog (rdF kind) #[.pointer (some ⟨R, 0, none⟩)] w (BlkPost K0 R s l N most w res) := by
  unfold rdF
  have hr := hres.out ()
  unfold If.kindB at hr
  by_cases h0 : kind = 0
  · rw [if_pos h0] at hr ⊢
    obtain ⟨K, hK, hS, hT⟩ := hX
    refine (stored_any hS hl hN h8 hm res (fun _ => hr)).mono ?_
    intro e w' ho
    obtain ⟨p, ts, lv, dv⟩ := r
    exact blk_of_syms hK (fun k hk => hk) hT (Fr.refl _ _) ho
  rw [if_neg h0] at hr ⊢
  by_cases h1 : kind = 1
  · rw [if_pos h1] at hr ⊢
    exact fixed_any hX hl hN hm (l.length + 1) (by rw [hl.out]; omega) res (fun _ => hr)
  · rw [if_neg h1] at hr ⊢
    exact dynamic_any hX hl hN hm res (fun _ => hr)
end Go.Proofs.YtnjlljdbghcobaaGreatDoor

/- Contract of inflate's reader: stream. -/
namespace Go.Proofs.YtnjlljdbghcobaaGreatDoor
set_option maxRecDepth 100000
open Go.RowKit

namespace If
theorem blocks_succ (l : List Bool) (most k : Nat) (out : List Nat) (p : Nat) :
    blocks l most (k + 1) out p = if (block l most p out).2.2 ≠ 0 then ([], 0, (block l most p out).2.2) else
      if Hd.num l p 1 = 1 then ((block l most p out).1, (block l most p out).2.1, 0) else blocks l most k (block l most p out).1 (block l most p out).2.1 := rfl
theorem block_short (l : List Bool) (most p : Nat) (out : List Nat) (h : l.length < p + 3) : block l most p out = ([], 0, 4) := by unfold block; rw [if_pos h]
end If

def lastM (R N : Nat) (s : Value) (w : World) : Nat := match s with | .bool true => 0 | _ => N + 1 - placeOf R w

set_option maxHeartbeats 8000000 in
theorem stream_any {K0 : Nat → Prop} {R : Nat} {s : Value} {l : List Bool} {N most : Nat} {w : World} {r : Rv} (hX : Sx K0 R s l N most w r) (hl : Hid (N = l.length)) (hN : N ≤ 2251799813685248) (h8 : Hid (N % 8 = 0)) (hm : most ≤ 65536)
    (k : Nat) (hk : N < r.p + k) (fin : List Nat × Nat × Int) (hfin : Hid (Unit → If.blocks l most k (If.tell r.ts) r.p = fin)) :
    Calls Tryz.prog 36 #[.pointer (some ⟨R, 0, none⟩)] w (BlkPost K0 R s l N most w fin) := by
  have HX := Lib.hid hX
  have HK := Lib.hid hk
  have hf0 := Tryz.call117
  have hf1 := Tryz.call118
  have hf2 := Tryz.call119
  have hcallF : ∀ (kind : Nat) (args : Array Value) (w : World), (callFunc (rdF kind) args).run Tryz.prog w = .ok (.enter (rdF kind) args) w := by
    intro kind args w
    unfold rdF
    split
    · exact hf0 args w
    · split
      · exact hf1 args w
      · exact hf2 args w
  clear hX hk hf0 hf1 hf2
  go_enter Tryz.func36, Tryz.ntmps36
  go_wp2_with fail
  go_loopw [2] (fun s2 wr => ∃ (b : Bool) (k' : Nat) (r' : Rv), s2 = .bool b ∧ Hid (Sx K0 R s l N most wr r') ∧ Hid (Fr K0 w wr) ∧ Hid (b = true → (If.tell r'.ts, r'.p, 0) = fin) ∧ Hid (b = false → N < r'.p + k' ∧ If.blocks l most k' (If.tell r'.ts) r'.p = fin)) (fun s2 wr => lastM R N s2 wr)
  case atStart => exact ⟨false, k, r, rfl, HX.out, Fr.refl _ _, fun h => by simp at h, fun _ => ⟨HK.out, hfin.out ()⟩⟩
  case round =>
    obtain ⟨b, k', r', rfl, KX, KF, KT, KB⟩ := hrel
    cases b with
    | true =>
      have hfin2 := KT.out rfl
      subst hfin2
      clear KT KB hfin
      go_wp2_with fail
      exact ⟨rfl, .tuple #[], by simp [results, Tryz.results36, go_sem], Out.intro KF.out ⟨r', rfl, rfl, KX.out⟩⟩
    | false =>
      obtain ⟨hkk, hbl⟩ := KB.out rfl
      obtain ⟨k2, rfl⟩ : ∃ k2, k' = k2 + 1 := ⟨k' - 1, by have := KX.out.pn; omega⟩
      rw [If.blocks_succ] at hbl
      have HBL := Lib.hid (fun _ : Unit => hbl)
      have HKK := Lib.hid hkk
      have hpl := KX.out.place
      have HPL := Lib.hid hpl
      have HN1 := Lib.hid (sx_num 1 KX.out hl hN (by omega))
      clear hkk hbl hpl KT KB
      go_wp2_with fail
      refine HN1.out.mono ?_
      clear HN1
      intro e w1 ho
      unfold numE at ho
      by_cases hE1 : N < r'.p + 1
      · rw [if_pos hE1] at ho
        obtain ⟨rfl, hf⟩ := ho.bad (by decide)
        have hb := HBL.out ()
        rw [If.block_short l most _ _ (by rw [← hl.out]; omega), if_pos (by simp)] at hb
        subst hb
        exact ⟨rfl, Out.fault (by decide) (KF.out.trans hf)⟩
      rw [if_neg hE1] at ho
      obtain ⟨rfl, hX1, hf1⟩ := ho.ok
      obtain ⟨la, hla⟩ : ∃ la, la = Hd.num l r'.p 1 := ⟨_, rfl⟩
      have hb := HBL.out ()
      rw [← hla] at hb ⊢
      have HBL2 := Lib.hid (fun _ : Unit => hb)
      have HX1 := Lib.hid hX1
      have HF1 := Lib.hid (KF.out.trans hf1)
      have HN2 := Lib.hid (sx_num 2 hX1 hl hN (by omega))
      clear ho hX1 hf1 hb HBL hla
      go_wp2_with fail
      refine HN2.out.mono ?_
      clear HN2
      intro e w2 ho
      unfold numE at ho
      by_cases hE2 : N < r'.p + 1 + 2
      · rw [if_pos hE2] at ho
        obtain ⟨rfl, hf⟩ := ho.bad (by decide)
        have hb := HBL2.out ()
        rw [If.block_short l most _ _ (by rw [← hl.out]; omega), if_pos (by simp)] at hb
        subst hb
        exact ⟨rfl, Out.fault (by decide) (HF1.out.trans hf)⟩
      rw [if_neg hE2] at ho
      obtain ⟨rfl, hX2, hf2⟩ := ho.ok
      have hb := HBL2.out ()
      rw [If.block_is l most _ _ (by rw [← hl.out]; omega)] at hb
      have hbf := @If.block_facts l most r'.p (If.tell r'.ts)
      rw [If.block_is l most _ _ (by rw [← hl.out]; omega)] at hbf
      obtain ⟨kind, hkd⟩ : ∃ kind, kind = Hd.num l (r'.p + 1) 2 := ⟨_, rfl⟩
      rw [← hkd] at hb hbf ⊢
      have hk4 : kind < 4 := by rw [hkd]; exact Hd.num_lt _ _ _
      have HX2 := Lib.hid hX2
      have HF2 := Lib.hid (HF1.out.trans hf2)
      have HB3 := Lib.hid (fun _ : Unit => hb)
      have HBF := Lib.hid (fun _ : Unit => hbf)
      clear ho hX2 hf2 hb hbf HBL2 HX1 HF1 hkd
      by_cases hk3 : kind < 3
      · have hb := HB3.out ()
        have hbf := HBF.out ()
        rw [if_pos hk3] at hb hbf
        obtain ⟨bk, hbk⟩ : ∃ bk, bk = If.kindB l most kind (r'.p + 3) (If.tell r'.ts) := ⟨_, rfl⟩
        rw [← hbk] at hb hbf
        have HKD := Lib.hid (kind_any kind HX2.out hl hN h8 hm bk (fun _ => hbk.symm))
        have HB4 := Lib.hid (fun _ : Unit => hb)
        have HBF2 := Lib.hid (fun _ : Unit => hbf)
        clear hb hbf hbk HB3 HBF
        go_wp2_with fail
        refine (block_fn R kind hk3 _).mono ?_
        rintro e w3 ⟨rfl, rfl⟩
        go_wp2_with fail
        refine HKD.out.mono ?_
        clear HKD
        intro e w4 ho
        obtain ⟨o1, p1, c1⟩ := bk
        by_cases hc : c1 = 0
        · subst hc
          obtain ⟨rfl, ⟨r4, hp4, ht4, hX4⟩, hf4⟩ := Out.ok ho
          simp only at hp4 ht4
          have hb := HB4.out ()
          have hbf := HBF2.out ()
          rw [if_neg (by simp)] at hb
          simp only at hb hbf
          rw [← hp4, ← ht4] at hb
          rw [← hp4] at hbf
          have hbf := hbf trivial
          have HX4 := Lib.hid hX4
          have HF4 := Lib.hid (HF2.out.trans hf4)
          have HB5 := Lib.hid (fun _ : Unit => hb)
          have HBF5 := Lib.hid hbf
          clear ho hX4 hf4 hb hbf HB4 HBF2 hp4 ht4
          by_cases hla1 : la = 1
          · subst hla1
            have hb := HB5.out ()
            rw [if_pos rfl] at hb
            have HB6 := Lib.hid hb
            clear hb HB5
            go_wp2_with fail
            go_roundw
            case rel => exact ⟨true, 0, r4, rfl, HX4.out, HF4.out, fun _ => HB6.out, fun h => by simp at h⟩
            case measure => have h1 := HPL.out; have h2 := HBF5.out; simp only [lastM]; rw [h1]; have h3 := hl.out; omega
          · have hb := HB5.out ()
            rw [if_neg hla1] at hb
            have HB6 := Lib.hid (fun _ : Unit => hb)
            have dl : ((la : Int) == 1) = false := by simp; omega
            have dl2 : (la == 1) = false := by simp; omega
            clear hb HB5
            go_wp2_with fail
            go_roundw
            case rel => exact ⟨false, k2, r4, rfl, HX4.out, HF4.out, fun h => by simp at h, fun _ => ⟨by have h1 := HKK.out; have h2 := HBF5.out; omega, HB6.out ()⟩⟩
            case measure => have h1 := HPL.out; have h2 := HBF5.out; have h4 := HX4.out.place; simp only [lastM]; rw [h1, h4]; have h3 := hl.out; omega
        · have e4 := ho.2.2 hc
          subst e4
          have hb := HB4.out ()
          rw [if_pos hc] at hb
          subst hb
          exact ⟨rfl, Out.fault hc (HF2.out.trans ho.1)⟩
      · have hb := HB3.out ()
        rw [if_neg hk3, if_pos (by simp)] at hb
        subst hb
        obtain rfl : kind = 3 := by omega
        go_wp2_with fail
        refine (block_bad R _).mono ?_
        rintro e w3 ⟨rfl, rfl⟩
        exact ⟨rfl, Out.fault (by decide) HF2.out⟩
end Go.Proofs.YtnjlljdbghcobaaGreatDoor

/- errors.As where the error is a fault and the target a fault; caught and what it defers. (After the manner of the guide's worked example on errors.As.) -/
namespace Go.Proofs.YtnjlljdbghcobaaGreatDoor
set_option maxRecDepth 100000
open Go.RowKit Go.Extern.Stop Go.Stop Go.Extern

/-- errors.errorType holds its handle. -/
def GlobE (w : World) : Prop := w.cell? ⟨0, 0, none⟩ = some (.iface 203 (.agg #[.pointer (some ⟨2, 111, none⟩)]))
theorem GlobE.lt {w : World} (h : GlobE w) : 0 < w.heap.size := by
  unfold GlobE at h
  rcases Nat.lt_or_ge 0 w.heap.size with h0 | h0
  · exact h0
  · rw [World.cell?, Array.getElem?_eq_none h0] at h; cases h
theorem GlobE.later {w w' : World} (h : GlobE w) (hb : Below w.heap.size w w') : GlobE w' := by
  have hl := GlobE.lt h
  unfold GlobE at h ⊢
  rw [hb.cell (p := ⟨0, 0, none⟩) hl]; exact h

/-- reflectlite's Value of a target that points to t: its own copy lies at a. -/
abbrev vP (a : Nat) : Value := .agg #[.pointer (some ⟨2, 114, none⟩), .pointer (some ⟨a, 0, none⟩), .int .u64 150]
abbrev rP : Value := .agg #[.pointer (some ⟨2, 114, none⟩)]
abbrev rF : Value := .agg #[.pointer (some ⟨2, 109, none⟩)]
abbrev vF (a : Nat) : Value := .agg #[.pointer (some ⟨2, 109, none⟩), .pointer (some ⟨a, 0, none⟩), .int .u64 153]
abbrev vFa (t : Addr) : Value := .agg #[.pointer (some ⟨2, 109, none⟩), .pointer (some t), .int .u64 409]

theorem as_unpackP (t : Addr) (w : World) : (ReflectliteValue.unpack (.iface 114 (.pointer (some t)))).run Tryz.prog w
    = .ok (.agg #[.pointer (some ⟨2, 114, none⟩), .pointer (some ⟨w.heap.size, 0, none⟩), .int .u64 150]) (w.alloc (.cells #[.pointer (some t)] 114)) := by kernel_rfl
theorem as_typeP (a : Addr) (w : World) : (ReflectliteValue.methodAny (ReflectliteValue.valueError "reflectlite.Value.Type" 0) (fun t _ _ _ => ReflectliteType.toType t) #[.agg #[.pointer (some ⟨2, 114, none⟩), .pointer (some a), .int .u64 150]]).run Tryz.prog w
    = .ok (.iface 203 (.agg #[.pointer (some ⟨2, 114, none⟩)])) w := by kernel_rfl
theorem as_mKind (h : Value) (w : World) : (Go.method 328 203 (.agg #[h]) "Kind").run Tryz.prog w = .ok (257, h) w := by kernel_rfl
theorem as_mElem (h : Value) (w : World) : (Go.method 328 203 (.agg #[h]) "Elem").run Tryz.prog w = .ok (267, .agg #[h]) w := by kernel_rfl
theorem as_mImpl (h : Value) (w : World) : (Go.method 328 203 (.agg #[h]) "Implements").run Tryz.prog w = .ok (268, .agg #[h]) w := by kernel_rfl
theorem as_mAssign (h : Value) (w : World) : (Go.method 328 203 (.agg #[h]) "AssignableTo").run Tryz.prog w = .ok (265, .agg #[h]) w := by kernel_rfl
theorem as_kindP (w : World) : ((ReflectliteType.abiMethod fun t => (fun a : Nat => Value.int IntKind.u8 (a : Int)) <$> Rtype.kind t) #[.pointer (some ⟨2, 114, none⟩)]).run Tryz.prog w = .ok (.int .u8 22) w := by kernel_rfl
theorem as_kindF (w : World) : ((ReflectliteType.abiMethod fun t => (fun a : Nat => Value.int IntKind.u8 (a : Int)) <$> Rtype.kind t) #[.pointer (some ⟨2, 109, none⟩)]).run Tryz.prog w = .ok (.int .u8 25) w := by kernel_rfl
theorem as_elemP (w : World) : (ReflectliteType.method ReflectliteType.elem #[.agg #[.pointer (some ⟨2, 114, none⟩)]]).run Tryz.prog w = .ok (.iface 203 (.agg #[.pointer (some ⟨2, 109, none⟩)])) w := by kernel_rfl
theorem as_implF (w : World) : (ReflectliteType.relation "Implements" ReflectliteType.implements_ #[.agg #[.pointer (some ⟨2, 109, none⟩)], .iface 203 (.agg #[.pointer (some ⟨2, 111, none⟩)])]).run Tryz.prog w = .ok (.bool true) w := by kernel_rfl
theorem as_typeOfF (v : Value) (w : World) : (ReflectliteType.typeOf #[.iface 109 v]).run Tryz.prog w = .ok (.iface 203 (.agg #[.pointer (some ⟨2, 109, none⟩)])) w := by kernel_rfl
theorem as_assignF (w : World) : (ReflectliteType.relation "AssignableTo" ReflectliteType.assignableTo #[.agg #[.pointer (some ⟨2, 109, none⟩)], .iface 203 (.agg #[.pointer (some ⟨2, 109, none⟩)])]).run Tryz.prog w = .ok (.bool true) w := by kernel_rfl
theorem as_unpackF (c : Int) (w : World) : (ReflectliteValue.unpack (.iface 109 (.agg #[.int .i64 c]))).run Tryz.prog w
    = .ok (.agg #[.pointer (some ⟨2, 109, none⟩), .pointer (some ⟨w.heap.size, 0, none⟩), .int .u64 153]) (w.alloc (.cells #[.int .i64 c] 109)) := by kernel_rfl
theorem as_elemOfP (w : World) : (Rtype.elem? 114).run Tryz.prog w = .ok (some 109) w := by kernel_rfl
theorem as_mkF (p : Addr) (w : World) : (ReflectliteValue.mk 109 p ReflectliteValue.flagAddr).run Tryz.prog w = .ok (.agg #[.pointer (some ⟨2, 109, none⟩), .pointer (some p), .int .u64 409]) w := by kernel_rfl
theorem as_partsP (a : Addr) (w : World) : (ReflectliteValue.parts (.agg #[.pointer (some ⟨2, 114, none⟩), .pointer (some a), .int .u64 150])).run Tryz.prog w = .ok (some (114, a, 150)) w := by kernel_rfl
theorem as_partsFa (a : Addr) (w : World) : (ReflectliteValue.parts (.agg #[.pointer (some ⟨2, 109, none⟩), .pointer (some a), .int .u64 409])).run Tryz.prog w = .ok (some (109, a, 409)) w := by kernel_rfl
theorem as_partsF (a : Addr) (w : World) : (ReflectliteValue.parts (.agg #[.pointer (some ⟨2, 109, none⟩), .pointer (some a), .int .u64 153])).run Tryz.prog w = .ok (some (109, a, 153)) w := by kernel_rfl
theorem as_direct (w : World) : (Rtype.directlyAssignable 109 109).run Tryz.prog w = .ok true w := by kernel_rfl
theorem as_size (w : World) : (sizeOf 109).run Tryz.prog w = .ok 1 w := by kernel_rfl
theorem as_method (z : Sem Value) (f : TypeId → Addr → Nat → Nat → Sem Value) (v : Value) :
    ReflectliteValue.method z f #[v] = (do match ← ReflectliteValue.parts v with | none => z | some (t, a, fl) => f t a fl (fl % 32)) := rfl
theorem as_set_is (v x : Value) : ReflectliteValue.set #[v, x] = (do
    let (some (dst, a, fl), some (src, b, _)) := (← ReflectliteValue.parts v, ← ReflectliteValue.parts x)
      | unsupported (.noEntry "extern/(internal/reflectlite.Value).Set.zeroValue")
    if fl / ReflectliteValue.flagAddr % 2 == 0 then unsupported (.noEntry "extern/(internal/reflectlite.Value).Set.unaddressable")
    let val ← loadVar src b
    if ← Rtype.directlyAssignable dst src then storeVar dst a val
    else if ← Rtype.implements dst src then
      if (← Rtype.kind src) == 20 then
        match val with
        | .nilIface => unsupported (.noEntry "extern/reflectlite: a nil value of one interface type handed on as a value of another")
        | _ => storeVar dst a val
      else storeVar dst a (.iface src val)
    else panicString ("reflectlite.Set: value of type " ++ (← Rtype.spelt src) ++ " is not assignable to type " ++ (← Rtype.spelt dst))
    pure (.tuple #[])) := rfl

theorem as_isNil (a p : Addr) (W : World) (ha : W.cell? a = some (.pointer (some p))) :
    (ReflectliteValue.method (ReflectliteValue.valueError "reflectlite.Value.IsNil" 0) ReflectliteValue.isNil #[.agg #[.pointer (some ⟨2, 114, none⟩), .pointer (some a), .int .u64 150]]).run Tryz.prog W = .ok (.bool false) W := by
  rw [as_method]
  simp only [Sem.run_bind, as_partsP, Result.andThen]
  simp [ReflectliteValue.isNil, loadVar, isAgg, underlying, Tryz.underlying114, ha, Result.andThen]
theorem as_elemV (a p : Addr) (W : World) (ha : W.cell? a = some (.pointer (some p))) :
    (ReflectliteValue.method (ReflectliteValue.valueError "reflectlite.Value.Elem" 0) ReflectliteValue.elem #[.agg #[.pointer (some ⟨2, 114, none⟩), .pointer (some a), .int .u64 150]]).run Tryz.prog W
      = .ok (.agg #[.pointer (some ⟨2, 109, none⟩), .pointer (some p), .int .u64 409]) W := by
  rw [as_method]
  simp only [Sem.run_bind, as_partsP, Result.andThen]
  simp [ReflectliteValue.elem, loadVar, isAgg, underlying, Tryz.underlying114, ha, Result.andThen, as_elemOfP, as_mkF]
theorem as_load (b : Nat) (c : Int) (W : World) (hb : W.cell? ⟨b, 0, none⟩ = some (.int .i64 c)) : (loadVar 109 ⟨b, 0, none⟩).run Tryz.prog W = .ok (.agg #[.int .i64 c]) W := by
  simp [loadVar, isAgg, underlying, Tryz.underlying109, loadCells, loadCellsFrom, hb, Result.andThen, Addr.add]
theorem as_set (b t : Nat) (c : Int) (old : Value) (W : World) (hb : W.cell? ⟨b, 0, none⟩ = some (.int .i64 c)) (ht : W.cell? ⟨t, 0, none⟩ = some old) (hf : W.frozen? ⟨t, 0, none⟩ = false) :
    (ReflectliteValue.set #[.agg #[.pointer (some ⟨2, 109, none⟩), .pointer (some ⟨t, 0, none⟩), .int .u64 409], .agg #[.pointer (some ⟨2, 109, none⟩), .pointer (some ⟨b, 0, none⟩), .int .u64 153]]).run Tryz.prog W
      = .ok (.tuple #[]) (W.setCell ⟨t, 0, none⟩ (.int .i64 c)) := by
  rw [as_set_is]
  simp only [Sem.run_bind, as_partsFa, as_partsF, Result.andThen]
  simp [ReflectliteValue.flagAddr, as_load b c W hb, Result.andThen, as_direct, storeVar, Value.cells, storeCells, Addr.add]
  rw [run_store Tryz.prog W ⟨t, 0, none⟩ _ _ (by rfl)]
  simp [ht, hf]
end Go.Proofs.YtnjlljdbghcobaaGreatDoor
