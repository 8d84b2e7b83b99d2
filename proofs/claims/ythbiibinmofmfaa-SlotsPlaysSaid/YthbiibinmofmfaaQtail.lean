/- The document's own disk (valiseref11) in memory, as a value; Read of it. -/
import Derived.Test.YthbiibinmofmfaaEstr
import Derived.Test.YthbiibinmofmfaaEnow
import Derived.StillTail

namespace Go.Proofs.Ythbiibinmofmfaa
set_option maxRecDepth 100000
open Go.RowKit

theorem results_lone {fn : Func} {p : Tmp} {ty : TypeId} (h : fn.results = #[.cell p ty]) (tmps : Array Value) (P : Program) (w : World) :
    (results fn tmps).run P w = ((asAddr (tmps.getD p undef)).run P w).andThen fun a w₁ => (loadVar ty a).run P w₁ := by
  simp only [results, h]
  simp [Sem.run_bind, Result.andThen]
/-- What a sector holds behind the first k loose writes. -/
def Ek.upTo (d : Ek.Dk) (i k : Nat) : List Nat :=
  match Ek.lastTo d.loose i k with
  | some j => ((d.loose[j]?).map Prod.snd).getD zrow
  | none => d.sure i
theorem Ek.upTo_all (d : Ek.Dk) (i : Nat) : Ek.upTo d i d.loose.length = Ek.now d i := rfl
theorem Ek.upTo_zero (d : Ek.Dk) (i : Nat) : Ek.upTo d i 0 = d.sure i := rfl
theorem Ek.upTo_hit {d : Ek.Dk} {i k : Nat} {r : List Nat} (h : d.loose[k]? = some (i, r)) : Ek.upTo d i (k + 1) = r := by
  unfold Ek.upTo Ek.lastTo
  rw [h]
  simp [h]
theorem Ek.upTo_off {d : Ek.Dk} {i j k : Nat} {r : List Nat} (h : d.loose[k]? = some (j, r)) (hn : j ≠ i) : Ek.upTo d i (k + 1) = Ek.upTo d i k := by
  unfold Ek.upTo
  rw [Ek.lastTo, h]
  simp [hn]

/-- The cells of the document's disk: they are never written again. -/
def DCells (w : World) (G : Nat → Prop) (a la : Option Addr) (d : Ek.Dk) : Prop :=
  (∀ i, i < d.n → ∃ g off, a = some ⟨g, off, none⟩ ∧ G g ∧ g < w.heap.size ∧ w.cell? ⟨g, off + i, none⟩ = some (.string (strB (d.sure i)))) ∧
  (∀ k j r, d.loose[k]? = some (j, r) → ∃ g off, la = some ⟨g, off, none⟩ ∧ G g ∧ g < w.heap.size ∧ w.cell? ⟨g, off + k * 2, none⟩ = some (.int .i64 ((j : Nat) : Int)) ∧ w.cell? ⟨g, off + k * 2 + 1, none⟩ = some (.string (strB r)))
def dv (a la : Option Addr) (c lc : Nat) (d : Ek.Dk) : Value := .agg #[.slice a d.n c, .slice la d.loose.length lc, .int .i64 d.left, .bool d.dark]
/-- The value is the document's disk d; its cells lie in blocks of G. -/
def DDk (w : World) (G : Nat → Prop) (v : Value) (d : Ek.Dk) : Prop := ∃ a la c lc, v = dv a la c lc d ∧ DCells w G a la d ∧ (la = none → lc = 0) ∧ Ek.Ok d
theorem DCells.keep {w w' : World} {G : Nat → Prop} {a la : Option Addr} {d : Ek.Dk} (h : DCells w G a la d) (hs : w.heap.size ≤ w'.heap.size) (hk : ∀ g, G g → g < w.heap.size → w'.heap[g]? = w.heap[g]?) : DCells w' G a la d := by
  refine ⟨fun i hi => ?_, fun k j r hr => ?_⟩
  · obtain ⟨g, off, e, hg, hl, hc⟩ := h.1 i hi
    exact ⟨g, off, e, hg, Nat.lt_of_lt_of_le hl hs, (World.cell?_of_block (a := ⟨g, off + i, none⟩) (hk g hg hl)).trans hc⟩
  · obtain ⟨g, off, e, hg, hl, h1, h2⟩ := h.2 k j r hr
    exact ⟨g, off, e, hg, Nat.lt_of_lt_of_le hl hs, (World.cell?_of_block (a := ⟨g, off + k * 2, none⟩) (hk g hg hl)).trans h1, (World.cell?_of_block (a := ⟨g, off + k * 2 + 1, none⟩) (hk g hg hl)).trans h2⟩
theorem DDk.later {w w' : World} {G : Nat → Prop} {v : Value} {d : Ek.Dk} (h : DDk w G v d) (hb : Below w.heap.size w w') : DDk w' G v d := by
  obtain ⟨a, la, c, lc, e, hc, hnl, ho⟩ := h
  exact ⟨a, la, c, lc, e, hc.keep hb.size (fun g _ hl => hb.block g hl), hnl, ho⟩

set_option maxRecDepth 100000 in
set_option maxHeartbeats 4000000 in
theorem rdisk_read (w : World) (G : Nat → Prop) (v : Value) (d : Ek.Dk) (h : DDk w G v d) (i : Nat) (hi : i < d.n) (hd : d.dark = false) :
    Calls Try.prog 38 #[v, .int .i64 (i : Int)] w fun e w' => e = .returned (.tuple #[.string (strB (Ek.now d i)), .int .i64 0]) ∧ Below w.heap.size w w' := by
  obtain ⟨a, la, c, lc, rfl, hc, hnl, hok⟩ := h
  have HNL := Lib.hid hnl
  clear hnl
  unfold dv
  rw [hd]
  have hn8 := hok.hi
  have hll := hok.count
  have HC := Lib.hid hc
  obtain ⟨gA, oA, rfl, _, _, _⟩ := hc.1 i hi
  have c1 : decide ((i : Int) < 0) = false := decide_eq_false (by omega)
  have c2 : decide ((d.n : Int) ≤ (i : Int)) = false := decide_eq_false (by omega)
  have c3 : (0 : Int) ≤ (i : Int) := by omega
  have c4 : (i : Int) < (d.n : Int) := by omega
  obtain ⟨L, hL⟩ : ∃ L, L = d.loose.length := ⟨_, rfl⟩
  rw [← hL]
  have HL := Lib.hid hL
  have HN := Lib.hid hi
  have LL := d.left
  have HBX := Lib.hid (Has.new w (.cells #[.slice (some ⟨gA, oA, none⟩) d.n c, .slice la L lc, .int .i64 d.left, .bool false] 32))
  have HW := Lib.hid (below1 w (.cells #[.slice (some ⟨gA, oA, none⟩) d.n c, .slice la L lc, .int .i64 d.left, .bool false] 32))
  have HU := Lib.hid (Ek.upTo_all d i)
  have HDN := Lib.hid hn8
  have HLD : Hid (L ≤ 1000000) := by have := hok.used; show _ ≤ _; omega
  clear LL hc hok hi hd hn8 hll hL
  go_enter Try.func38, Try.ntmps38
  go_wp2_with fail
  generalize w.alloc (.cells #[.slice (some ⟨gA, oA, none⟩) d.n c, .slice la L lc, .int .i64 d.left, .bool false] 32) = wb at HBX HW ⊢
  go_loopw [6, 7] (fun s6 s7 wr => ∃ k : Nat, s6 = .string (strB (Ek.upTo d i k)) ∧ s7 = .int .i64 (k : Int) ∧ k ≤ L ∧ Hid (wr = wb)) (fun _ s7 _ => L - (intOf s7).toNat)
  case atStart => exact ⟨0, by first | rfl | go_num, by go_num, Nat.zero_le _, rfl⟩
  case round =>
    obtain ⟨k, rfl, rfl, hk, KW⟩ := hrel
    have hw : wb = wr := KW.out.symm
    subst hw
    have x1 : wb.cell? ⟨w.heap.size, 1, none⟩ = some (.slice la L lc) := HBX.out.cell 1
    have hld := HLD.out
    by_cases hlt : k < L
    · have j0 : decide ((k : Int) < (L : Int)) = true := decide_eq_true (by omega)
      have j1 : (0 : Int) ≤ (k : Int) := by omega
      have j2 : (k : Int) < (L : Int) := by omega
      have j3 : (k : Int) < 1000000 := by omega
      obtain ⟨⟨j, rr⟩, hr⟩ : ∃ p, d.loose[k]? = some p := ⟨_, List.getElem?_eq_getElem (by rw [← HL.out]; exact hlt)⟩
      have hCC := HC.out.keep HW.out.size (fun g _ hl => HW.out.block g hl)
      obtain ⟨gl, ol, rfl, _, _, y1, y2⟩ := hCC.2 k j rr hr
      by_cases hji : j = i
      · subst hji
        have hup := Lib.hid (Ek.upTo_hit hr)
        have z1 : (((j : Nat) : Int) == ((j : Nat) : Int)) = true := by simp
        clear hr hCC
        go_wp2_with fail
        go_round
        case rel => exact ⟨k + 1, by rw [hup.out], by go_num, by omega, by first | exact rfl | exact trivial⟩
        case measure => simp [intOf]; omega
      · have hup := Lib.hid (Ek.upTo_off hr hji)
        have z1 : (((j : Nat) : Int) == ((i : Nat) : Int)) = false := by simp; omega
        clear hr hCC
        go_wp2_with fail
        go_round
        case rel => exact ⟨k + 1, by rw [hup.out], by go_num, by omega, by first | exact rfl | exact trivial⟩
        case measure => simp [intOf]; omega
    · have j0 : decide ((k : Int) < (L : Int)) = false := decide_eq_false (by omega)
      have e : k = L := by omega
      have hup : Hid (Ek.upTo d i k = Ek.now d i) := by show _ = _; rw [e, HL.out]; exact HU.out
      clear e
      go_wp2_with fail
      refine bodyPost_ret (v := .tuple #[.string (strB (Ek.upTo d i k)), .int .i64 0]) (by simp [results, Try.results38, go_sem]) rfl ⟨by rw [hup.out], HW.out⟩

set_option maxRecDepth 100000 in
set_option maxHeartbeats 4000000 in
theorem rdisk_out (w : World) (G : Nat → Prop) (v : Value) (d : Ek.Dk) (h : DDk w G v d) (i : Int) (hi : i < 0 ∨ (d.n : Int) ≤ i) :
    Calls Try.prog 38 #[v, .int .i64 i] w fun e w' => e = .returned (.tuple #[.string ⟨#[]⟩, .int .i64 2]) ∧ Below w.heap.size w w' := by
  obtain ⟨a, la, c, lc, rfl, hc, hnl, hok⟩ := h
  have HNL := Lib.hid hnl
  clear hnl
  unfold dv
  have HW := Lib.hid (below1 w (.cells #[.slice a d.n c, .slice la d.loose.length lc, .int .i64 d.left, .bool d.dark] 32))
  generalize d.loose.length = L at HW ⊢
  generalize d.left = F at HW ⊢
  generalize d.dark = D at HW ⊢
  by_cases h0 : i < 0
  · have c1 : decide (i < 0) = true := decide_eq_true h0
    clear hi hc hok
    go_enter Try.func38, Try.ntmps38
    go_wp2_with fail
    refine bodyPost_ret (v := .tuple #[.string ⟨#[]⟩, .int .i64 2]) (by simp [results, Try.results38, go_sem]) rfl ⟨rfl, HW.out⟩
  · have c1 : decide (i < 0) = false := decide_eq_false h0
    have c2 : decide ((d.n : Int) ≤ i) = true := decide_eq_true (by omega)
    clear hc hok
    go_enter Try.func38, Try.ntmps38
    go_wp2_with fail
    refine bodyPost_ret (v := .tuple #[.string ⟨#[]⟩, .int .i64 2]) (by simp [results, Try.results38, go_sem]) rfl ⟨rfl, HW.out⟩
set_option maxRecDepth 100000 in
set_option maxHeartbeats 4000000 in
theorem rdisk_dark (w : World) (G : Nat → Prop) (v : Value) (d : Ek.Dk) (h : DDk w G v d) (i : Nat) (hi : i < d.n) (hd : d.dark = true) :
    Calls Try.prog 38 #[v, .int .i64 (i : Int)] w fun e w' => e = .returned (.tuple #[.string ⟨#[]⟩, .int .i64 6]) ∧ Below w.heap.size w w' := by
  obtain ⟨a, la, c, lc, rfl, hc, hnl, hok⟩ := h
  have HNL := Lib.hid hnl
  clear hnl
  unfold dv
  rw [hd]
  have HW := Lib.hid (below1 w (.cells #[.slice a d.n c, .slice la d.loose.length lc, .int .i64 d.left, .bool true] 32))
  generalize d.loose.length = L at HW ⊢
  generalize d.left = F at HW ⊢
  have c1 : decide ((i : Int) < 0) = false := decide_eq_false (by omega)
  have c2 : decide ((d.n : Int) ≤ (i : Int)) = false := decide_eq_false (by omega)
  clear hc hok hd
  go_enter Try.func38, Try.ntmps38
  go_wp2_with fail
  refine bodyPost_ret (v := .tuple #[.string ⟨#[]⟩, .int .i64 6]) (by simp [results, Try.results38, go_sem]) rfl ⟨rfl, HW.out⟩

set_option maxRecDepth 100000 in
set_option maxHeartbeats 4000000 in
theorem rdisk_arm (w : World) (G : Nat → Prop) (v : Value) (d : Ek.Dk) (h : DDk w G v d) (n : Int) (h9 : n ≤ 9223372036854775807) :
    Calls Try.prog 14 #[v, .int .i64 n] w fun e w' => (∃ v', e = .returned v' ∧ DDk w' G v' (Ek.fuse d n)) ∧ Below w.heap.size w w' := by
  obtain ⟨a, la, c, lc, rfl, hc, hnl, hok⟩ := h
  have HNL := Lib.hid hnl
  clear hnl
  have hf : dv a la c lc (Ek.fuse d n) = .agg #[.slice a d.n c, .slice la d.loose.length lc, .int .i64 (max n 0), .bool d.dark] := rfl
  have HQ : Hid (∀ w', Below w.heap.size w w' → DDk w' G (.agg #[.slice a d.n c, .slice la d.loose.length lc, .int .i64 (max n 0), .bool d.dark]) (Ek.fuse d n)) := fun w' hb =>
    ⟨a, la, c, lc, hf.symm, DCells.keep (d := Ek.fuse d n) hc hb.size (fun g _ hl => hb.block g hl), HNL.out, Ek.fuse_ok hok n h9⟩
  generalize Ek.fuse d n = df at HQ ⊢
  unfold dv
  generalize d.n = N at HQ ⊢
  generalize d.loose.length = L at HQ ⊢
  generalize d.left = F
  generalize d.dark = D at HQ ⊢
  clear hf hc hok
  go_enter Try.func14, Try.ntmps14
  go_wp2_with fail
  all_goals (first | (have e : max n 0 = 0 := by omega) | (have e : max n 0 = n := by omega))
  all_goals rw [e] at HQ
  all_goals clear e
  · refine bodyPost_ret (v := .agg #[.slice a N c, .slice la L lc, .int .i64 _, .bool D]) ?_ rfl ⟨⟨_, rfl, HQ.out _ ?_⟩, ?_⟩
    · rw [results_lone rfl]
      go_simp
    · exact (below1 w _).trans ((below1 _ _).mono (by simp))
    · exact (below1 w _).trans ((below1 _ _).mono (by simp))
  · refine bodyPost_ret (v := .agg #[.slice a N c, .slice la L lc, .int .i64 _, .bool D]) ?_ rfl ⟨⟨_, rfl, HQ.out _ ?_⟩, ?_⟩
    · rw [results_lone rfl]
      go_simp
    · exact (below1 w _).trans ((below1 _ _).mono (by simp))
    · exact (below1 w _).trans ((below1 _ _).mono (by simp))

set_option maxRecDepth 100000 in
set_option maxHeartbeats 4000000 in
theorem rdisk_spend (w : World) (G : Nat → Prop) (v : Value) (d : Ek.Dk) (h : DDk w G v d) (hd : d.dark = false) :
    Calls Try.prog 47 #[v] w fun e w' => (∃ v', e = .returned (.tuple #[v', .bool (decide (d.left ≠ 0))]) ∧ DDk w' G v' (Ek.change d)) ∧ Below w.heap.size w w' := by
  obtain ⟨a, la, c, lc, rfl, hc, hnl, hok⟩ := h
  have HNL := Lib.hid hnl
  clear hnl
  have hkeep : ∀ (x : Int) (y : Bool), Ek.change d = { d with left := x, dark := y } → Hid (∀ w', Below w.heap.size w w' → DDk w' G (.agg #[.slice a d.n c, .slice la d.loose.length lc, .int .i64 x, .bool y]) (Ek.change d)) := fun x y e w' hb => by
    have hk := Ek.change_ok hok
    rw [e] at hk ⊢
    exact ⟨a, la, c, lc, rfl, DCells.keep (d := { d with left := x, dark := y }) hc hb.size (fun g _ hl => hb.block g hl), HNL.out, hk⟩
  by_cases h0 : d.left = 0
  · have HQ := hkeep 0 true (by unfold Ek.change; rw [if_pos (Or.inr h0)]; cases d; simp_all)
    have hz : decide (d.left ≠ 0) = false := by simp [h0]
    rw [hz]
    unfold dv
    rw [hd, h0]
    generalize Ek.change d = df at HQ ⊢
    generalize d.n = N at HQ ⊢
    generalize d.loose.length = L at HQ ⊢
    clear hkeep hc hok hd h0 hz
    go_enter Try.func47, Try.ntmps47
    go_wp2_with fail
    refine bodyPost_ret (v := .tuple #[.agg #[.slice a N c, .slice la L lc, .int .i64 0, .bool true], .bool false]) ?_ rfl ⟨⟨_, rfl, HQ.out _ ?_⟩, ?_⟩
    · rw [results_cell_tmp rfl]
      go_simp
    · exact (below1 w _).trans ((below1 _ _).mono (by simp))
    · exact (below1 w _).trans ((below1 _ _).mono (by simp))
  · have hz : decide (d.left ≠ 0) = true := by simp [h0]
    have hcn : ¬ (d.dark = true ∨ d.left = 0) := by simp [hd, h0]
    by_cases h1 : d.left = -1
    · have HQ := hkeep (-1) false (by unfold Ek.change; rw [if_neg hcn, if_pos h1]; cases d; simp_all)
      rw [hz]
      unfold dv
      rw [hd, h1]
      generalize Ek.change d = df at HQ ⊢
      generalize d.n = N at HQ ⊢
      generalize d.loose.length = L at HQ ⊢
      clear hkeep hc hok hd h0 hz hcn h1
      go_enter Try.func47, Try.ntmps47
      go_wp2_with fail
      refine bodyPost_ret (v := .tuple #[.agg #[.slice a N c, .slice la L lc, .int .i64 (-1), .bool false], .bool true]) ?_ rfl ⟨⟨_, rfl, HQ.out _ ?_⟩, ?_⟩
      · rw [results_cell_tmp rfl]
        go_simp
      · exact (below1 w _).trans ((below1 _ _).mono (by simp))
      · exact (below1 w _).trans ((below1 _ _).mono (by simp))
    · have HQ := hkeep (d.left - 1) false (by unfold Ek.change; rw [if_neg hcn, if_neg h1]; cases d; simp_all)
      have hlo := hok.left0
      have hhi := hok.left1
      have c1 : decide (0 < d.left) = true := decide_eq_true (by omega)
      have c2 : (d.left == 0) = false := by simpa using h0
      have c3 : 1 ≤ d.left := by omega
      rw [hz]
      unfold dv
      rw [hd]
      generalize Ek.change d = df at HQ ⊢
      generalize d.n = N at HQ ⊢
      generalize d.loose.length = L at HQ ⊢
      generalize d.left = F at HQ c1 c2 c3 hhi ⊢
      clear hkeep hc hok hz hcn hlo
      go_enter Try.func47, Try.ntmps47
      go_wp2_with fail
      refine bodyPost_ret (v := .tuple #[.agg #[.slice a N c, .slice la L lc, .int .i64 (F - 1), .bool false], .bool true]) ?_ rfl ⟨⟨_, rfl, HQ.out _ ?_⟩, ?_⟩
      · rw [results_cell_tmp rfl]
        go_simp
      · exact (below1 w _).trans ((below1 _ _).mono (by simp))
      · exact (below1 w _).trans ((below1 _ _).mono (by simp))

set_option maxRecDepth 100000 in
set_option maxHeartbeats 4000000 in
theorem rdisk_write_dark (w : World) (G : Nat → Prop) (v : Value) (d : Ek.Dk) (h : DDk w G v d) (i : Int) (S : ByteArray) (hS : S.size = 512) (h0 : 0 ≤ i) (h1 : i < (d.n : Int)) (hd : d.dark = true) :
    Calls Try.prog 24 #[v, .int .i64 i, .string S] w fun e w' => (∃ v', e = .returned (.tuple #[v', .int .i64 6]) ∧ DDk w' G v' d) ∧ Below w.heap.size w w' := by
  have HQ : Hid (∀ w', Below w.heap.size w w' → DDk w' G v d) := fun w' hb => h.later hb
  obtain ⟨a, la, c, lc, rfl, hc, hnl, hok⟩ := h
  have HNL := Lib.hid hnl
  clear hnl
  unfold dv at HQ ⊢
  rw [hd] at HQ ⊢
  have c1 : decide (i < 0) = false := decide_eq_false (by omega)
  have c2 : decide ((d.n : Int) ≤ i) = false := decide_eq_false (by omega)
  have c3 : (S.size : Int) = 512 := by omega
  have c4 : (((S.size : Nat) : Int) != 512) = false := by rw [c3]; rfl
  generalize d.loose.length = L at HQ ⊢
  generalize d.left = F at HQ ⊢
  clear hc hok hd hS c3
  go_enter Try.func24, Try.ntmps24
  go_wp2_with fail
  refine bodyPost_ret (v := .tuple #[.agg #[.slice a d.n c, .slice la L lc, .int .i64 F, .bool true], .int .i64 6]) ?_ rfl ⟨⟨_, rfl, HQ.out _ ?_⟩, ?_⟩
  · rw [results_cell_tmp rfl]
    go_simp
  · exact (below1 w _).trans ((below1 _ _).mono (by simp))
  · exact (below1 w _).trans ((below1 _ _).mono (by simp))
set_option maxRecDepth 100000 in
set_option maxHeartbeats 4000000 in
theorem rdisk_write_bad (w : World) (G : Nat → Prop) (v : Value) (d : Ek.Dk) (h : DDk w G v d) (i : Int) (S : ByteArray) (hb : i < 0 ∨ (d.n : Int) ≤ i ∨ S.size ≠ 512) :
    Calls Try.prog 24 #[v, .int .i64 i, .string S] w fun e w' => (∃ v', e = .returned (.tuple #[v', .int .i64 2]) ∧ DDk w' G v' d) ∧ Below w.heap.size w w' := by
  have HQ : Hid (∀ w', Below w.heap.size w w' → DDk w' G v d) := fun w' hb => h.later hb
  obtain ⟨a, la, c, lc, rfl, hc, hnl, hok⟩ := h
  have HNL := Lib.hid hnl
  clear hnl
  unfold dv at HQ ⊢
  generalize d.loose.length = L at HQ ⊢
  generalize d.left = F at HQ ⊢
  generalize d.dark = D at HQ ⊢
  by_cases h0 : i < 0
  · have c1 : decide (i < 0) = true := decide_eq_true h0
    clear hc hok hb
    go_enter Try.func24, Try.ntmps24
    go_wp2_with fail
    refine bodyPost_ret (v := .tuple #[.agg #[.slice a d.n c, .slice la L lc, .int .i64 F, .bool D], .int .i64 2]) ?_ rfl ⟨⟨_, rfl, HQ.out _ ?_⟩, ?_⟩
    · rw [results_cell_tmp rfl]
      go_simp
    · exact (below1 w _).trans ((below1 _ _).mono (by simp))
    · exact (below1 w _).trans ((below1 _ _).mono (by simp))
  · have c1 : decide (i < 0) = false := decide_eq_false h0
    by_cases h1 : (d.n : Int) ≤ i
    · have c2 : decide ((d.n : Int) ≤ i) = true := decide_eq_true h1
      clear hc hok hb
      go_enter Try.func24, Try.ntmps24
      go_wp2_with fail
      refine bodyPost_ret (v := .tuple #[.agg #[.slice a d.n c, .slice la L lc, .int .i64 F, .bool D], .int .i64 2]) ?_ rfl ⟨⟨_, rfl, HQ.out _ ?_⟩, ?_⟩
      · rw [results_cell_tmp rfl]
        go_simp
      · exact (below1 w _).trans ((below1 _ _).mono (by simp))
      · exact (below1 w _).trans ((below1 _ _).mono (by simp))
    · have c2 : decide ((d.n : Int) ≤ i) = false := decide_eq_false h1
      have c4 : (((S.size : Nat) : Int) != 512) = true := by simp; omega
      clear hc hok hb
      go_enter Try.func24, Try.ntmps24
      go_wp2_with fail
      refine bodyPost_ret (v := .tuple #[.agg #[.slice a d.n c, .slice la L lc, .int .i64 F, .bool D], .int .i64 2]) ?_ rfl ⟨⟨_, rfl, HQ.out _ ?_⟩, ?_⟩
      · rw [results_cell_tmp rfl]
        go_simp
      · exact (below1 w _).trans ((below1 _ _).mono (by simp))
      · exact (below1 w _).trans ((below1 _ _).mono (by simp))
end Go.Proofs.Ythbiibinmofmfaa

/- A region that draws its order, of which all operations but the last ones only read: the first ones by one walk in the text's order, the last ones as they stand. -/
namespace Go.Proofs.Ythbiibinmofmfaa
set_option maxRecDepth 100000
open Go

theorem still_of_quiet {P : Program} {ops : Array Oper} {W : World} {Q : Act → Prop} : ∀ (l : List Oper) (a : Act), wpQuiet P ops (fun w' => w' = W) Q l a → wpStill P ops W Q l a := by
  intro l
  induction l with
  | nil => intro a h; exact h
  | cons o rest ih =>
    intro a h
    unfold wpQuiet at h
    unfold wpStill
    split
    · rename_i hw
      rw [if_pos hw] at h
      obtain ⟨v, hv, hn⟩ := h
      have h1 := hv W rfl
      have hn := ih _ hn
      unfold Oper.quietAt at h1
      unfold Oper.still
      generalize (execOp a.eval o).run P W = r at h1
      cases r with
      | ok x w' =>
        cases x with
        | value v' => obtain ⟨e1, e2⟩ := h1; subst e2; exact ⟨e1, hn⟩
        | skip => obtain ⟨e1, e2⟩ := h1; subst e2; exact ⟨e1, hn⟩
        | enter f args => obtain ⟨e1, e2⟩ := h1; exact ⟨e1, v, e2, hn⟩
        | _ => exact h1.elim
      | halt x w' => exact h1.elim
    · rename_i hw
      rw [if_neg hw] at h
      exact ih _ h

theorem region_qtail {P : Program} {id : Nat} {Q : Exit → Act → World → Prop} {a : Act} {w : World} {l : List Oper} (n : Nat) (hm : P.follows .mixedOrders = true) (hB : Region.lexTailB .any l.toArray n = true)
    (h : ∀ W : World, W = w.drew → wpQuiet P l.toArray (fun w' => w' = W) (fun a' => wpList P l.toArray Q (l.drop n) a' W) (l.take n) a) : (Code.region id l.toArray true).wp P Q a w :=
  wp_region_still_tail n hm hB (still_of_quiet _ _ (h _ rfl))
end Go.Proofs.Ythbiibinmofmfaa
