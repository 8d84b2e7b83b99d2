/- Locks: the iterator over those who leave the row. -/
import Derived.Test.YtoipmdemicdhoaaQfr
import Derived.Test.YtoipmdemicdhoaaMade
import Derived.Test.YtoipmdemicdhoaaQtail

namespace Go.Proofs.Ytoipmdemicdhoaa
set_option maxRecDepth 100000
open Go.RowKit Go.Shelf

attribute [local go_sem] Oper.semAt_some

/-- The state when i have come to hold the key and the next one was taken out of the row. -/
def Qk.gone (hs : List Nat) (wr : Bool) (row : List (Nat × Bool)) (i : Nat) : Qk.St := ⟨(Qk.mid hs wr row i).hs, (Qk.mid hs wr row i).wr, (Qk.mid hs wr row i).row.tail⟩
/-- What the iterator reads: the lock in block c, by its boxes. -/
def LvK (b1 b2 c : Nat) (hs : List Nat) (wr : Bool) (row : List (Nat × Bool)) (i : Nat) (W : World) : Prop :=
  Has W b1 (.cells #[.pointer (some ⟨c, 2, none⟩)] 79 (0, 0)) ∧ Has W b2 (.cells #[.func (.func 26) #[.pointer (some ⟨c, 0, none⟩)] #[]] 71 (0, 0)) ∧ ∃ O, Lck W c O (Qk.mid hs wr row i)
/-- What it turns. -/
def LvT (c : Nat) (hs : List Nat) (wr : Bool) (row : List (Nat × Bool)) (i : Nat) (A B : World) : Prop :=
  ∀ O, Lck A c O (Qk.mid hs wr row i) → Lck B c O (Qk.gone hs wr row i) ∧ Nxt O A O B

theorem Only.cell_of {g c : Nat} {w w' : World} {v : Value} {i : Nat} (h : Only g w w') (hc : w.cell? ⟨c, i, none⟩ = some v) (hn : c ≠ g) : w'.cell? ⟨c, i, none⟩ = w.cell? ⟨c, i, none⟩ :=
  World.cell?_of_block (h.block c (by have := World.block_lt_of_cell? w _ hc; simpa using this) hn)
/-- How many stand in the row, read from memory. -/
def rlen (c : Nat) (W : World) : Nat := match W.cell? ⟨c, 2, none⟩ with | some (.slice _ n _) => n | _ => 0
theorem Lck.rlen {W : World} {c : Nat} {O : Nat → Prop} {s : Qk.St} (h : Lck W c O s) : rlen c W = s.row.length := by
  obtain ⟨hv, rv, h⟩ := h
  obtain ⟨a, cap, rfl⟩ := qo_form h.r
  unfold Go.Proofs.Ytoipmdemicdhoaa.rlen
  rw [h.cells.2.2.1]
set_option maxHeartbeats 1000000 in
theorem leave_any (c c2 : Nat) (w : World) :
    Calls Try.prog 25 #[.pointer (some ⟨c, 2, none⟩), .func (.func 26) #[.pointer (some ⟨c2, 0, none⟩)] #[]] w fun e w' => e = .returned (.func (.func 38) #[] #[.pointer (some ⟨w.heap.size, 0, none⟩), .pointer (some ⟨w.heap.size + 1, 0, none⟩)]) ∧ w' = (w.alloc (.cells #[.pointer (some ⟨c, 2, none⟩)] 79)).alloc (.cells #[.func (.func 26) #[.pointer (some ⟨c2, 0, none⟩)] #[]] 71) := by
  go_enter Try.func25, Try.ntmps25
  go_wp2
  go_ret
  exact ⟨rfl, rfl⟩

set_option maxRecDepth 100000 in
set_option maxHeartbeats 8000000 in
theorem leave_seq (b1 b2 c : Nat) (hs : List Nat) (zw : Bool) (row : List (Nat × Bool)) (hl : hs.length + row.length ≤ 1000) :
    SeqTurn Try.prog 38 #[] #[.pointer (some ⟨b1, 0, none⟩), .pointer (some ⟨b2, 0, none⟩)] ((Qk.out hs zw row).map q1) (Qk.out hs zw row).length (LvK b1 b2 c hs zw row) (LvT c hs zw row) := by
  intro l J J' Jx W hJ hJ' hJx hK hT hY hS h0
  rw [List.length_map]
  rw [List.length_map] at hT
  show Calls Try.prog 38 #[.func (.yield l) #[] #[], .pointer (some ⟨b1, 0, none⟩), .pointer (some ⟨b2, 0, none⟩)] W _
  obtain ⟨n, hn⟩ : ∃ n, n = (Qk.out hs zw row).length := ⟨_, rfl⟩
  have hmid := fun i h => Qk.mid_step hs zw row i h
  have hmend := Qk.mid_end hs zw row
  have hmlen := fun i h => Qk.mid_len hs zw row i h
  have hole := Qk.out_len hs zw row
  rw [← hn] at hT hmid hmend hole ⊢
  have HY' := Lib.hid (fun (i : Nat) (o : Nat × Bool) (hi : i < n) (h : (Qk.out hs zw row)[i]? = some o) => hY i (q1 o) (by omega) (by rw [List.getElem?_map, h]; rfl))
  have HJ := Lib.hid (fun i (A C : World) (h1 : J i A) (h2 : W.heap.size ≤ A.heap.size) (h3 : Below A.heap.size A C) => hJ i A C h1 h2 h3)
  have HK := Lib.hid hK
  have HT := Lib.hid (fun i A B (hi : i < n) (hh : J i A) (hs : W.heap.size ≤ A.heap.size) hb => hT i A B hi hh hs hb)
  have H0 := Lib.hid h0
  have HMI := Lib.hid hmid
  have HME := Lib.hid hmend
  have HML := Lib.hid hmlen
  have HOL := Lib.hid hole
  have HLL := Lib.hid hl
  have HMX := Lib.hid (show Try.prog.follows .mixedOrders = true by kernel_rfl)
  clear hY hJ hK hT hS h0 hJ' hJx hmid hmend hmlen hole hl hn
  refine callsIn_wide (n := 9).1 ?_
  refine callsIn_of_wp Try.func38 rfl trivial ?_ rfl
  simp only [Try.ntmps38, List.size_toArray, List.length_cons, List.length_nil, Nat.reduceAdd, Nat.reduceSub, Array.replicate_succ, Array.replicate_zero, List.push_toArray, List.append_toArray, List.nil_append, List.cons_append]
  gi_wp2
  gi_loopw [4] (fun s4 wr => ∃ i : Nat, i ≤ n ∧ Hid (J i wr) ∧ Hid (W.heap.size ≤ wr.heap.size)) (fun s4 W' => rlen c W')
  case atStart => exact ⟨0, Nat.zero_le _, H0, Nat.le_refl W.heap.size⟩
  case round =>
    obtain ⟨i, hin, KJ, KS⟩ := hrel
    obtain ⟨k1, k2, O, hLk⟩ := HK.out i wr KJ.out
    have HRL := Lib.hid hLk.rlen
    have hle := HML.out i (Nat.le_trans hin HOL.out)
    have hsl : (Qk.mid hs zw row i).hs.length ≤ 1000 ∧ (Qk.mid hs zw row i).row.length ≤ 1000 := by have := HLL.out; omega
    have HLKx := Lib.hid (fun x : Wd wr.heap.size wr => hLk.later x.h)
    have HE := Lib.hid (fun x : Wd wr.heap.size wr => (empty_any x.w c O _ (HLKx.out x)).mono (R' := fun e w' => e = .returned (.bool (Qk.mid hs zw row i).row.isEmpty) ∧ Below x.w.heap.size x.w w') (fun e w' h => ⟨h.1, by rw [h.2]; exact Below.refl _ _⟩))
    have HLT := Lib.hid (fun (x : Wd wr.heap.size wr) q b => lets_any x.w c O _ q b (HLKx.out x))
    have d1 : ∀ x : Wd wr.heap.size wr, x.w.cell? ⟨b1, 0, none⟩ = some (.pointer (some ⟨c, 2, none⟩)) := fun x => (k1.later x.h).one.1
    have d2 : ∀ x : Wd wr.heap.size wr, x.w.cell? ⟨b2, 0, none⟩ = some (.func (.func 26) #[.pointer (some ⟨c, 0, none⟩)] #[]) := fun x => (k2.later x.h).one.1
    have eg : ∀ args w, (callFunc 26 args).run Try.prog w = .ok (.enter 26 args) w := fun _ _ => rfl
    cases hrow : (Qk.mid hs zw row i).row with
    | nil =>
      rw [hrow] at HE
      have hi9 : i = n := by
        by_cases hlt : i < n
        · obtain ⟨d, r, e, -⟩ := HMI.out i hlt
          rw [hrow] at e; cases e
        · omega
      subst hi9
      have HKX : Hid (∀ x : Wd wr.heap.size wr, J i x.w) := fun x => HJ.out i wr x.w KJ.out KS.out x.h
      clear hLk hle hsl HLT hrow k1 k2 KJ KS HRL HLKx
      gi_wp2
      refine wpIn_wide.2 ?_
      refine region_made wr.heap.size wr HMX.out (by kernel_rfl) (Below.refl _ _) ?_
      repeat (go_big_quiet_step (exact made_call _ (Nat.le_refl _) (HE.out _)))
      refine wpQuiet_nil fun x => ?_
      gi_wp2
      go_end0
      exact ⟨⟨_, rfl⟩, Or.inl ⟨Nat.le_refl _, HKX.out x⟩⟩
    | cons d r =>
      rw [hrow] at HE
      obtain ⟨q, b⟩ := d
      obtain ⟨hv, rv, hV⟩ := hLk
      obtain ⟨a, cap, rfl⟩ := qo_form hV.r
      have hrl : (Qk.mid hs zw row i).row.length = r.length + 1 := by rw [hrow]; rfl
      have hr0 := hV.r
      rw [hrl] at hr0
      obtain ⟨g, rfl, hcap, -, hcs⟩ := qc_cells hr0 (by omega)
      obtain ⟨u0, u1⟩ := hcs 0 (q, b) (by rw [hrow]; rfl)
      dsimp only at u0 u1
      rw [Nat.zero_mul] at u0 u1
      rw [Nat.zero_add] at u1
      have hgl : g < wr.heap.size := World.block_lt_of_cell? wr _ u0
      have hcl := hV.lt c hV.mine
      have c2 := hV.cells.2.2.1
      rw [hrl] at c2
      have d3 : ∀ x : Wd wr.heap.size wr, x.w.cell? ⟨c, 2, none⟩ = some (.slice (some ⟨g, 0, none⟩) (r.length + 1) cap) := fun x => (x.cell hcl).trans c2
      have d4 : ∀ x : Wd wr.heap.size wr, x.w.cell? ⟨g, 0, none⟩ = some (.int .i64 (q : Int)) := fun x => (x.cell hgl).trans u0
      have d5 : ∀ x : Wd wr.heap.size wr, x.w.cell? ⟨g, 1, none⟩ = some (.bool b) := fun x => (x.cell hgl).trans u1
      by_cases hlt : i < n
      · obtain ⟨d', r', e1, e2, e3, e4⟩ := HMI.out i hlt
        rw [hrow] at e1
        injection e1 with e1 e1'
        subst e1 e1'
        have HLT2 : Hid (∀ x : Wd wr.heap.size wr, Calls Try.prog 26 #[.pointer (some ⟨c, 0, none⟩), .agg #[.int .i64 (q : Int), .bool b]] x.w fun e w' => e = .returned (.bool true) ∧ Below x.w.heap.size x.w w') := fun x => by
          have := HLT.out x (q : Int) b
          rw [e2] at this
          exact this
        have KA : Hid (∀ x : Wd wr.heap.size wr, J i x.w ∧ W.heap.size ≤ x.w.heap.size) := fun x => ⟨HJ.out i wr x.w KJ.out KS.out x.h, Nat.le_trans KS.out x.h.size⟩
        have HCL := Lib.hid (And.intro hgl hcl)
        have HGC : Hid (c ≠ g) := fun e => qo_ne hV.r hV.has (by decide) (by rw [e]; rfl)
        have HR0 : Hid (∀ x : Wd wr.heap.size wr, x.w.ownsRow 0 70 2 (.slice (some ⟨g, 0, none⟩) (r.length + 1) cap) (r.length + 1) (qc ((q, b) :: r))) := fun x => by
          have h9 := (hV.later x.h).r
          rw [hrow] at h9
          exact h9
        have HS1 : Hid (r.length + 1 ≤ 1000 ∧ 1 ≤ cap) := ⟨by rw [← hrl]; exact hsl.2, by omega⟩
        have HB1 := Lib.hid (fun x : Wd wr.heap.size wr => k1.later x.h)
        have HVX := Lib.hid (fun x : Wd wr.heap.size wr => hV.later x.h)
        have hcap1 : 1 ≤ cap := by omega
        have HROW := Lib.hid hrow
        have HRL2 : Hid (rlen c wr = r.length + 1) := HRL.out.trans hrl
        have HM4 := Lib.hid (And.intro e3 e4)
        obtain ⟨rl, hrl9⟩ : ∃ rl, rl = r.length := ⟨_, rfl⟩
        rw [← hrl9] at d3 HR0 HS1 HRL2
        have HRR := Lib.hid hrl9
        have hi0 : 0 < rl + 1 := by omega
        clear hV hle hsl k1 k2 KJ KS HLKx HLT u0 u1 c2 hr0 hcs hcap e2 e3 e4 hrow hrl hrl9 hgl hcl HRL
        gi_wp2
        refine wpIn_wide.2 ?_
        refine region_made wr.heap.size wr HMX.out (by kernel_rfl) (Below.refl _ _) ?_
        repeat (go_big_quiet_step (first | exact made_call _ (Nat.le_refl _) (HE.out _) | exact made_call _ (Nat.le_refl _) (HLT2.out _)))
        refine wpQuiet_nil fun x => ?_
        have t1 := d1 x
        have t3 := d3 x
        have t4 := d4 x
        have t5 := d5 x
        have K0 := KA.out x
        have R0 := HR0.out x
        have V0 := HVX.out x
        have B0 := HB1.out x
        have hz0 := x.h.size
        obtain ⟨X, hX⟩ : ∃ X, X = x.w := ⟨_, rfl⟩
        rw [← hX] at t1 t3 t4 t5 K0 R0 V0 B0 hz0
        have b1' := below1 X (.cells #[.int .i64 (q : Int), .bool b] 70)
        obtain ⟨W1, hW1⟩ : ∃ W1, W1 = X.alloc (.cells #[.int .i64 (q : Int), .bool b] 70) := ⟨_, rfl⟩
        have nB : Has W1 b1 (.cells #[.pointer (some ⟨c, 2, none⟩)] 79 (0, 0)) := by rw [hW1]; exact B0.later b1'
        have n1 := nB.one.1
        have n3 : W1.cell? ⟨c, 2, none⟩ = some (.slice (some ⟨g, 0, none⟩) (rl + 1) cap) := by rw [hW1, b1'.cell (p := ⟨c, 2, none⟩) (Nat.lt_of_lt_of_le HCL.out.2 hz0)]; exact t3
        have nbx : Has W1 X.heap.size (.cells #[.int .i64 (q : Int), .bool b] 70 (0, 0)) := by rw [hW1]; exact Has.new X _
        have nj : J i W1 ∧ W.heap.size ≤ W1.heap.size := by
          rw [hW1]
          exact ⟨HJ.out i X _ K0.1 K0.2 b1', Nat.le_trans K0.2 b1'.size⟩
        have nV := V0.later b1'
        rw [← hW1] at nV
        have nR : W1.ownsRow 0 70 2 (.slice (some ⟨g, 0, none⟩) (rl + 1) cap) (rl + 1) (qc ((q, b) :: r)) := by rw [hW1]; exact R0.alloc _
        have HDL := Lib.hid (fun W' (h : W' = W1.drew) => delete_one g (rl + 1) cap (q, b) r W' (by rw [h]; exact nR.drew) (by rw [HRR.out]) HS1.out.1)
        have HDN : Hid (∀ w3 q', w3.ownsRow 0 70 2 (.slice (some ⟨g, 0, none⟩) r.length cap) r.length (qc r) → Only g (W1.drew.drewN q') w3 → w3.cell? ⟨c, 2, none⟩ = some (.slice (some ⟨g, 0, none⟩) (rl + 1) cap) ∧ w3.frozen? ⟨c, 2, none⟩ = false ∧ w3.cell? ⟨b1, 0, none⟩ = some (.pointer (some ⟨c, 2, none⟩)) ∧ (w3.setCell ⟨c, 2, none⟩ (.slice (some ⟨g, 0, none⟩) r.length cap)).cell? ⟨b1, 0, none⟩ = some (.pointer (some ⟨c, 2, none⟩)) ∧
            Has (w3.setCell ⟨c, 2, none⟩ (.slice (some ⟨g, 0, none⟩) r.length cap)) X.heap.size (.cells #[.int .i64 (q : Int), .bool b] 70 (0, 0)) ∧ J' i (w3.setCell ⟨c, 2, none⟩ (.slice (some ⟨g, 0, none⟩) r.length cap)) ∧ W.heap.size ≤ (w3.setCell ⟨c, 2, none⟩ (.slice (some ⟨g, 0, none⟩) r.length cap)).heap.size) := by
          intro w3 q' ho hw
          have hc3 : Has w3 c _ := (show Has (W1.drew.drewN q') c _ from nV.has).only hw HGC.out
          have hgX : X.heap.size ≠ g := by have := HCL.out.1; omega
          have hcX : X.heap.size ≠ c := by have := HCL.out.2; omega
          have hbx3 : Has w3 X.heap.size _ := (show Has (W1.drew.drewN q') X.heap.size _ from nbx).only hw hgX
          have hsz : W1.heap.size ≤ w3.heap.size := hw.size
          have hb1g : b1 ≠ g := fun e => qo_ne nV.r nB (by decide) (by rw [e]; rfl)
          have hb1c : b1 ≠ c := fun e => by
            have h1 : some (Obj.cells _ _ _) = some (Obj.cells _ _ _) := (show W1.heap[b1]? = _ from nB).symm.trans (by rw [e]; exact nV.has)
            injection h1 with h1
            injection h1 with _ h2 _
            exact absurd h2 (by decide)
          have hb13 : Has w3 b1 _ := (show Has (W1.drew.drewN q') b1 _ from nB).only hw hb1g
          refine ⟨by rw [← n3]; exact hw.cell_of n3 HGC.out, hc3.free 2, hb13.one.1, (hb13.set (a := ⟨c, 2, none⟩) hb1c _).one.1, hbx3.set (a := ⟨c, 2, none⟩) hcX _, ?_, by simp; omega⟩
          refine HT.out i W1 _ hlt nj.1 nj.2 ?_
          intro O' hL'
          obtain ⟨hv', rv', hV'⟩ := hL'
          have e9 : rv' = .slice (some ⟨g, 0, none⟩) (rl + 1) cap := by
            have h1 := hV'.cells.2.2.1
            rw [n3] at h1
            injection h1 with h1
            exact h1.symm
          subst e9
          obtain ⟨f1, f2⟩ := hV'.lessR (w2 := W1.drew.drewN q') (below_drewN (Below.refl _ _).drew q') rfl ho rfl hw
          refine ⟨⟨hv', .slice (some ⟨g, 0, none⟩) r.length cap, ?_⟩, f2⟩
          have e8 : Qk.gone hs zw row i = ⟨(Qk.mid hs zw row i).hs, (Qk.mid hs zw row i).wr, r⟩ := by
            unfold Qk.gone
            rw [HROW.out]; rfl
          rw [e8]
          exact f1
        have HW1 := Lib.hid hW1
        have CY := Lib.hid (HY'.out i (q, b) hlt HM4.out.1)
        unfold q1 at CY
        clear nbx nj nV nR nB R0 V0 B0 b1' hW1 K0
        rw [← hX]
        clear hX hz0
        gi_wp2
        rw [← HW1.out]
        refine wpIn_wide.2 ?_
        have m1 : W1.drew.cell? ⟨b1, 0, none⟩ = some (.pointer (some ⟨c, 2, none⟩)) := n1
        have m3 : W1.drew.cell? ⟨c, 2, none⟩ = some (.slice (some ⟨g, 0, none⟩) (rl + 1) cap) := n3
        have HD2 := Lib.hid (HDL.out W1.drew rfl)
        clear n1 n3 HDL
        refine wp_region_held_drew (S := fun wx => wx.cell? ⟨b1, 0, none⟩ = some (.pointer (some ⟨c, 2, none⟩))) (by kernel_rfl) m1 (fun _ => ?_)
        change wpAnyH _ _ _ _ _ 9 (Array.replicate 9 false) _ _
        refine wpAnyH_take (i := 0) (v := ?_) rfl (by kernel_rfl) (by kernel_rfl) (by kernel_rfl) (fun _ _ _ h => h) (Or.inl ⟨rfl, ?hy0⟩) m1 ?_
        case hy0 => intro w' hw'; have hw2' : w'.cell? ⟨b1, 0, none⟩ = some (.pointer (some ⟨c, 2, none⟩)) := hw'; clear hw'; go_simp; first | done | rfl
        try simp only [Act.put, List.getElem_toArray, List.getElem_cons_zero, List.setIfInBounds_toArray, List.set_cons_zero, List.set_cons_succ]
        refine wpAnyH_take (i := 1) (v := ?_) rfl (by kernel_rfl) (by kernel_rfl) (by kernel_rfl) (fun _ _ _ h => h) (Or.inl ⟨rfl, ?hy1⟩) m1 ?_
        case hy1 => intro w' hw'; have hw2' : w'.cell? ⟨b1, 0, none⟩ = some (.pointer (some ⟨c, 2, none⟩)) := hw'; clear hw'; go_simp; first | done | rfl
        try simp only [Act.put, List.getElem_toArray, List.getElem_cons_zero, List.getElem_cons_succ, List.setIfInBounds_toArray, List.set_cons_zero, List.set_cons_succ]
        refine wpAnyH_take (i := 2) (v := ?_) rfl (by kernel_rfl) (by kernel_rfl) (by kernel_rfl) (fun _ _ _ h => h) (Or.inl ⟨rfl, ?hy2⟩) m1 ?_
        case hy2 => intro w' hw'; clear hw'; go_simp; first | done | rfl
        try simp only [Act.put, List.getElem_toArray, List.getElem_cons_zero, List.getElem_cons_succ, List.setIfInBounds_toArray, List.set_cons_zero, List.set_cons_succ]
        refine wpAnyH_take (i := 3) (v := ?_) rfl (by kernel_rfl) (by kernel_rfl) (by kernel_rfl) (fun _ _ _ h => h) (Or.inl ⟨rfl, ?hy3⟩) m1 ?_
        case hy3 => intro w' hw'; clear hw'; go_simp; first | done | rfl
        try simp only [Act.put, List.getElem_toArray, List.getElem_cons_zero, List.getElem_cons_succ, List.setIfInBounds_toArray, List.set_cons_zero, List.set_cons_succ]
        refine wpAnyH_ready (rs := [4]) (by kernel_rfl) (by simp) ?_
        refine AllReadyH.cons rfl (fun K hK => ?_) AllReadyH.nil
        go_simp
        refine hK.out _ _ m1 (fun _ => ?_)
        clear hK K
        try simp only [Act.put, List.getElem_toArray, List.getElem_cons_zero, List.getElem_cons_succ, List.setIfInBounds_toArray, List.set_cons_zero, List.set_cons_succ]
        refine wpAnyH_ready (rs := [5]) (by kernel_rfl) (by simp) ?_
        refine AllReadyH.cons rfl (fun K hK => ?_) AllReadyH.nil
        go_simp
        refine (HD2.out).mono ?_
        rintro e w3 ⟨rfl, ho3, q', hw3⟩
        obtain ⟨p1, p2, p0, p9, p3, p4, p5⟩ := HDN.out w3 q' ho3 hw3
        obtain ⟨v0, v1, -, -⟩ := p3.two
        have KB := Lib.hid (And.intro p4 p5)
        clear ho3 hw3 p3 p4 p5 HD2 HDN
        dsimp only
        refine hK.out _ _ p0 (fun _ => ?_)
        clear hK K
        try simp only [Act.put, List.getElem_toArray, List.getElem_cons_zero, List.getElem_cons_succ, List.setIfInBounds_toArray, List.set_cons_zero, List.set_cons_succ]
        refine wpAnyH_take (i := 6) (v := ?_) rfl (by kernel_rfl) (by kernel_rfl) (by kernel_rfl) (fun _ _ _ h => h) (Or.inl ⟨rfl, ?hy6⟩) p0 ?_
        case hy6 => intro w' hw'; clear hw'; go_simp; first | done | rfl
        try simp only [Act.put, List.getElem_toArray, List.getElem_cons_zero, List.getElem_cons_succ, List.setIfInBounds_toArray, List.set_cons_zero, List.set_cons_succ]
        refine wpAnyH_take (i := 7) (v := ?_) rfl (by kernel_rfl) (by kernel_rfl) (by kernel_rfl) (fun _ _ _ h => h) (Or.inl ⟨rfl, ?hy7⟩) p0 ?_
        case hy7 => intro w' hw'; clear hw'; go_simp; first | done | rfl
        try simp only [Act.put, List.getElem_toArray, List.getElem_cons_zero, List.getElem_cons_succ, List.setIfInBounds_toArray, List.set_cons_zero, List.set_cons_succ]
        refine wpAnyH_ready (rs := [8]) (by kernel_rfl) (by simp) ?_
        refine AllReadyH.cons rfl (fun K hK => ?_) AllReadyH.nil
        go_simp
        refine hK.out _ _ p9 (fun _ => ?_)
        clear hK K
        try simp only [Act.put, List.getElem_toArray, List.getElem_cons_zero, List.getElem_cons_succ, List.setIfInBounds_toArray, List.set_cons_zero, List.set_cons_succ]
        refine wpAnyH_done (by kernel_rfl) ?_ _
        generalize w3.setCell ⟨c, 2, none⟩ (.slice (some ⟨g, 0, none⟩) r.length cap) = W4 at *
        obtain ⟨fn, tmps, assign, body, hy, hR⟩ := CY.out W4 KB.out.1 KB.out.2
        clear CY p1 p2
        gi_wp2
        refine (roundIn_wide hR).mono ?_
        rintro e W5 ⟨rfl, hu5, hj5⟩
        have KJ5 := Lib.hid hj5
        have KS5 := Lib.hid (Nat.le_trans KB.out.2 hu5)
        have HM5 : Hid (rlen c W5 = rl) := by
          obtain ⟨-, -, O5, hL5⟩ := HK.out (i + 1) W5 hj5
          show _ = _
          rw [hL5.rlen, HM4.out.2, HRR.out]
        clear hu5 hj5 hy hR KB v0 v1
        gi_wp2_with fail
        go_roundw
        case rel => exact ⟨i + 1, hlt, KJ5, KS5⟩
        case measure => rw [HM5.out, HRL2.out]; omega
      · obtain rfl : i = n := by omega
        have HLT2 : Hid (∀ x : Wd wr.heap.size wr, Calls Try.prog 26 #[.pointer (some ⟨c, 0, none⟩), .agg #[.int .i64 (q : Int), .bool b]] x.w fun e w' => e = .returned (.bool false) ∧ Below x.w.heap.size x.w w') := fun x => by
          have h1 := HLT.out x (q : Int) b
          obtain ⟨m1, m2⟩ := HME.out
          rw [← m1, hrow] at m2
          rcases m2 with m2 | ⟨c', r', m2, m3⟩
          · cases m2
          · cases m2
            rw [m3] at h1
            exact h1
        have HKX : Hid (∀ x : Wd wr.heap.size wr, J i x.w) := fun x => HJ.out i wr x.w KJ.out KS.out x.h
        have hcap1 : 1 ≤ cap := by omega
        obtain ⟨rl, hrl9⟩ : ∃ rl, rl = r.length := ⟨_, rfl⟩
        rw [← hrl9] at d3
        have hi0 : 0 < rl + 1 := by omega
        clear hV hle hsl k1 k2 KJ KS HLKx HLT u0 u1 c2 hr0 hcs hcap hrow hrl hrl9 hgl hcl HRL
        gi_wp2
        refine wpIn_wide.2 ?_
        refine region_made wr.heap.size wr HMX.out (by kernel_rfl) (Below.refl _ _) ?_
        repeat (go_big_quiet_step (first | exact made_call _ (Nat.le_refl _) (HE.out _) | exact made_call _ (Nat.le_refl _) (HLT2.out _)))
        refine wpQuiet_nil fun x => ?_
        gi_wp2
        go_end0
        exact ⟨⟨_, rfl⟩, Or.inl ⟨Nat.le_refl _, HKX.out x⟩⟩
end Go.Proofs.Ytoipmdemicdhoaa
