/- valiselaw12.many: bytes over and over, as far as is looked at. -/
import Derived.Test.YthbiibinmofmfaaElive
import Derived.Test.YthbiibinmofmfaaElv
import Derived.Test.YthbiibinmofmfaaEwri
import Derived.Test.YthbiibinmofmfaaElay
import Derived.Test.YthbiibinmofmfaaEdone
import Derived.Test.YthbiibinmofmfaaErep
import Derived.Laws.OwnMore
import Derived.ChangeMaps5

namespace Go.Proofs.Ythbiibinmofmfaa
set_option maxRecDepth 100000
open Go.RowKit

/-- append onto the call's own bytes, from a slice of whatever make. -/
theorem zapp_any (w : World) (base n : Nat) (v : Value) (bs : List Nat) (hown : w.ownsRow base 5 1 v n (vb bs)) (a : Option Addr) (m c : Nat) (ms : List Nat) (ty : TypeId) (hs : Sl w (.slice a m c) ms) (h1 : n ≤ 1000000000) (h2 : m ≤ 1000000000) (hb : base ≤ w.heap.size) :
    ∃ v' w', (Builtin.append_ #[35, 35] ty #[v, .slice a m c]).run Try.prog w = .ok v' w' ∧ w'.ownsRow base 5 1 v' (n + m) (vb (bs ++ ms)) ∧ w.grownBy w' v.ownBlock := by
  obtain ⟨i0, hi, hz0, hz1, hz2⟩ := info_parts Try.infoU8
  cases a with
  | none =>
    have h0 := (hs.len.2.2 rfl)
    obtain ⟨rfl, rfl⟩ := h0
    have hms : ms = [] := List.eq_nil_of_length_eq_zero hs.len.1.symm
    subst hms
    exact ⟨v, w, run_append_owned_none (P := Try.prog) w base 35 ty 5 i0 1 Try.underlying35 hi v n (vb bs) hown, by rw [List.append_nil]; exact hown, ⟨rfl, rfl, rfl, Nat.le_refl _, fun _ _ _ => rfl⟩⟩
  | some ad =>
    obtain ⟨v', w', hrun, r1, r2, _⟩ := run_append_own (P := Try.prog) w base 35 ty 5 i0 (.int .u8 0) 1 1 Try.underlying35 hi hz0 hz1 hz2 rfl (by decide) v n (vb bs) hown ad m c (vb ms) (by rw [vb_length]; have := hs.len.1; omega)
      (fun j u hj => by
        have hlt := (List.getElem?_eq_some_iff.1 hj).1
        rw [vb_length] at hlt
        obtain ⟨ad', he, h⟩ := hs.cells (by have := hs.len.1; omega)
        injection he with he
        subst he
        exact h j u hj) (oneCell_vb _) (by unfold maxLen; omega) (by omega) hb
    exact ⟨v', w', hrun, by rw [vb_append]; exact r1, r2⟩
theorem below_own {B n : Nat} {W w w' : World} {v : Value} {xs : List Value} (hb : Below B W w) (hs : B ≤ w.heap.size) (hown : w.ownsRow B 5 1 v n xs) (hg : w.grownBy w' v.ownBlock) : Below B W w' :=
  hb.grown hg hs (fun k hk => (hown.lt k hk).1)
theorem own_shape' {w : World} {base : Nat} {e : TypeId} {size : Nat} {v : Value} {n : Nat} {xs : List Value} (h : w.ownsRow base e size v n xs) : ∃ a cap, v = .slice a n cap := by
  rcases h.2 with ⟨rfl, rfl⟩ | ⟨g, cap, cur, rfl, _⟩
  · exact ⟨_, _, rfl⟩
  · exact ⟨_, _, rfl⟩

/-- What many leaves. -/
def ManyP (w : World) (e : Ending) (w' : World) : Prop := ∃ v ys, e = .returned v ∧ w'.ownsRow w.heap.size 5 1 v ys.length (vb ys) ∧ (∀ y ∈ ys, y < 256) ∧ ys.length ≤ 7000 ∧ Below w.heap.size w w'

set_option maxRecDepth 100000 in
set_option maxHeartbeats 4000000 in
theorem many_any (w : World) (a : Option Addr) (m c : Nat) (bs : List Nat) (long : Int) (hs : Sl w (.slice a m c) bs) (hm : m ≤ 3000) (hlo : -9223372036854775808 ≤ long) (hhi : long ≤ 9223372036854775807) :
    Calls Try.prog 8 #[.slice a m c, .int .i64 long] w (ManyP w) := by
  have S0 := Lib.hid hs
  have hlen := hs.len.1
  have h8 := hs.facts.1
  have H8 := Lib.hid h8
  have HL := Lib.hid hlen
  have HB0 := Lib.hid (Below.refl w.heap.size w)
  have HO0 : Hid (w.ownsRow w.heap.size 5 1 (.slice none 0 0) 0 (vb [])) := ⟨rfl, Or.inl ⟨rfl, rfl⟩⟩
  have H80 : Hid (∀ y ∈ ([] : List Nat), y < 256) := fun y hy => by simp at hy
  clear hs hlen h8
  go_enter Try.func8, Try.ntmps8
  go_wp2_with fail
  go_loopw [5] (fun s5 wr => ∃ ys : List Nat, ys.length ≤ 4000 ∧ Hid (wr.ownsRow w.heap.size 5 1 s5 ys.length (vb ys)) ∧ Hid (∀ y ∈ ys, y < 256) ∧ Hid (Below w.heap.size w wr)) (fun s5 _ => match s5 with | .slice _ n _ => 4000 - n | _ => 0)
  case atStart => exact ⟨[], by simp, HO0, H80, HB0⟩
  case round =>
    obtain ⟨ys, hy, KO, K8, KB⟩ := hrel
    obtain ⟨xa, xc, rfl⟩ := own_shape' KO.out
    have hl := HL.out
    have hsz := KB.out.size
    obtain ⟨v', w', hrun, hown, hg⟩ := zapp_any wr w.heap.size ys.length _ ys KO.out a m c bs 35 (S0.out.later KB.out) (by omega) (by omega) hsz
    have KB' := Lib.hid (below_own KB.out hsz KO.out hg)
    have KO' : Hid (w'.ownsRow w.heap.size 5 1 v' (ys ++ bs).length (vb (ys ++ bs))) := by rw [List.length_append, ← hl]; exact hown
    have K8' : Hid (∀ y ∈ ys ++ bs, y < 256) := fun y hy => by rcases List.mem_append.1 hy with h | h; exact K8.out y h; exact H8.out y h
    have hln : (ys ++ bs).length = ys.length + m := by rw [List.length_append, hl]
    have HLN := Lib.hid hln
    obtain ⟨n, hn⟩ : ∃ n, n = ys.length := ⟨_, rfl⟩
    rw [← hn] at hrun hy ⊢
    have HN := Lib.hid hn
    have n1 : (n : Int) ≤ 4000 := by omega
    have m1 : (m : Int) ≤ 3000 := by omega
    have w1 : IntKind.i64.wrap ((n : Int) + (m : Int)) = (n : Int) + (m : Int) := IntWalk.i64_in _ (by omega)
    have HR := Lib.hid hrun
    obtain ⟨mn, hmn⟩ : ∃ x, min long 4000 = x := ⟨_, rfl⟩
    have mn4 : mn ≤ 4000 := by omega
    clear hown hg hl hln hn hsz hrun
    clear hmn mn4 mn
    by_cases h0 : 0 < m
    · have j0 : decide ((0 : Int) < (m : Int)) = true := decide_eq_true (by omega)
      by_cases hbig : 4000 < long
      · have j2 : decide (4000 < long) = true := decide_eq_true hbig
        by_cases hle : (n : Int) + (m : Int) ≤ 4000
        · have j1 : decide ((n : Int) + (m : Int) ≤ 4000) = true := decide_eq_true hle
          have hle4 : n + m ≤ 4000 := by omega
          go_wp2_with (at_builtin; refine wpList_run rfl (exec_append (.tmp 19) (.tmp 20) 35 rfl (.slice xa n xc) (.slice a m c) v' rfl rfl HR.out) ?_)
          go_round
          case rel => exact ⟨ys ++ bs, by rw [HLN.out, ← HN.out]; exact hle4, KO', K8', KB'⟩
          case measure =>
            obtain ⟨ya, yc, rfl⟩ := own_shape' KO'.out
            have := HLN.out
            have := HN.out
            simp only
            omega
        · have j1 : decide ((n : Int) + (m : Int) ≤ 4000) = false := decide_eq_false hle
          go_wp2_with (at_builtin; refine wpList_run rfl (exec_append (.tmp 22) (.tmp 23) 35 rfl (.slice xa n xc) (.slice a m c) v' rfl rfl HR.out) ?_)
          go_ret
          exact ⟨v', ys ++ bs, rfl, KO'.out, K8'.out, by rw [HLN.out]; have := HN.out; omega, KB'.out⟩
      · have j2 : decide (4000 < long) = false := decide_eq_false hbig
        by_cases hle : (n : Int) + (m : Int) ≤ long
        · have j1 : decide ((n : Int) + (m : Int) ≤ long) = true := decide_eq_true hle
          have hle4 : n + m ≤ 4000 := by omega
          go_wp2_with (at_builtin; refine wpList_run rfl (exec_append (.tmp 19) (.tmp 20) 35 rfl (.slice xa n xc) (.slice a m c) v' rfl rfl HR.out) ?_)
          go_round
          case rel => exact ⟨ys ++ bs, by rw [HLN.out, ← HN.out]; exact hle4, KO', K8', KB'⟩
          case measure =>
            obtain ⟨ya, yc, rfl⟩ := own_shape' KO'.out
            have := HLN.out
            have := HN.out
            simp only
            omega
        · have j1 : decide ((n : Int) + (m : Int) ≤ long) = false := decide_eq_false hle
          go_wp2_with (at_builtin; refine wpList_run rfl (exec_append (.tmp 22) (.tmp 23) 35 rfl (.slice xa n xc) (.slice a m c) v' rfl rfl HR.out) ?_)
          go_ret
          exact ⟨v', ys ++ bs, rfl, KO'.out, K8'.out, by rw [HLN.out]; have := HN.out; omega, KB'.out⟩
    · have j0 : decide ((0 : Int) < (m : Int)) = false := decide_eq_false (by omega)
      go_wp2_with (at_builtin; refine wpList_run rfl (exec_append (.tmp 22) (.tmp 23) 35 rfl (.slice xa n xc) (.slice a m c) v' rfl rfl HR.out) ?_)
      go_ret
      exact ⟨v', ys ++ bs, rfl, KO'.out, K8'.out, by rw [HLN.out]; have := HN.out; omega, KB'.out⟩
end Go.Proofs.Ythbiibinmofmfaa

/- A list of calls as an argument, with the reach of what each keeps; numbers appended to none. -/
namespace Go.Proofs.Ythbiibinmofmfaa
set_option maxRecDepth 100000
open Go.ChangeShapes Go.WideShapes Go.ChangeAt Go.RowKit Go.Joins

theorem Try.bytesInt : Try.prog.bytesOf 3 = 8 := by kernel_rfl
theorem weightsAll_mem {H : Type} {P : Program} {e : TypeId} (l : List (DataW H)) (j : Nat) (hj : j < l.length) : ∀ m ∈ l[j].weights P e, m ∈ DataW.weightsAll P e l := by
  induction l generalizing j with
  | nil => simp at hj
  | cons d l ih =>
    intro m hm
    simp only [DataW.weightsAll, List.mem_append]
    cases j with
    | zero => exact Or.inl hm
    | succ j => exact Or.inr (ih j (by simpa using hj) m (by simpa using hm))
/-- A call's numbers take no more bytes than there are, and where there is no list it has no room. -/
def Ks8 (ac : Ac) : Prop := ac.keep.length * 8 ≤ 140737488351232 ∧ ∀ n c, ac.kv = .slice none n c → c = 0
theorem ks_trod8 {H : Type} {enc : TypeId × Value → H} {W : World} {fuel : Nat} {cs : List Value} {x : DataW H × List MemPlace}
    (h : DataW.trod enc Try.prog W 0 (fun _ => true) true fuel 36 cs = some x) (hw : ∀ m ∈ x.1.weights Try.prog 36, m ≤ reachBytes) : ∃ s ks, cs = [s] ∧ Ks W s ks ∧ ks.length * 8 ≤ 140737488351232 ∧ ∀ n c, s = .slice none n c → c = 0 := by
  obtain ⟨s, ks, e, hk⟩ := ks_trod h
  refine ⟨s, ks, e, hk, ?_⟩
  obtain ⟨a, cap, rfl, h1, h2, h3⟩ := hk
  rcases open_ints Try.underlying36 Try.underlying3 Try.cellsInt h with ⟨rfl, rfl⟩ | ⟨a', len, cap', zs, rfl, _, hl, hm, hz, rfl, hcell, hwz⟩
  · simp only [List.cons.injEq, and_true, Value.slice.injEq] at e
    obtain ⟨e1, e2, e3⟩ := e
    exact ⟨by omega, fun n c hs => by injection hs with _ _ q; omega⟩
  · simp only [List.cons.injEq, and_true, Value.slice.injEq] at e
    obtain ⟨e1, e2, e3⟩ := e
    have hz' : zs.length = cap' := by simpa using hz
    have := hw (cap' * 8) (by
      simp only [DataW.weights, Try.underlying36, Try.bytesInt]
      simp [lits, hz']
      left
      omega)
    unfold reachBytes at this
    exact ⟨by omega, fun n c hs => by injection hs with q _ _; rw [← e1] at q; cases q⟩

theorem ints_run (wb : World) (base g0 : Nat) (ho : wb.ownsRow base 3 1 (.slice (some ⟨g0, 0, none⟩) 0 0) 0 []) (hb : base ≤ wb.heap.size) (ka : Option Addr) (kn kc : Nat) (ks : List Int) (hk : Ks wb (.slice ka kn kc) ks) (h8 : ks.length * 8 ≤ 140737488351232) (hn : ka = none → kc = 0) :
    ∃ g capn w', (Builtin.append_ #[36, 36] 36 #[.slice (some ⟨g0, 0, none⟩) 0 0, .slice ka kn kc]).run Try.prog wb = .ok (.slice (some ⟨g, 0, none⟩) kn capn) w' ∧ Ks w' (.slice (some ⟨g, 0, none⟩) kn capn) ks ∧ wb.grownBy w' (some g0) ∧ base ≤ g := by
  obtain ⟨i0, hi, hz0, hz1, hz2⟩ := info_parts Try.infoInt
  obtain ⟨a, cap, e, h1, h2, h3⟩ := hk
  injection e with e1 e2 e3
  subst e1 e2 e3
  obtain ⟨g, capn, w', hrun, hown, hgrow⟩ := run_append_mine (P := Try.prog) (w := wb) base 36 36 3 i0 _ 1 8 Try.underlying36 hi hz0 hz1 hz2 rfl (by decide)
    g0 0 0 [] ho ka ks.length kc (ks.map fun z => .int .i64 z) (by simp) (fun e => ⟨by
      by_cases h0 : 0 < ks.length
      · obtain ⟨b, off, e2, _⟩ := h3 h0
        rw [e] at e2; cases e2
      · omega, hn e⟩) (fun h0 => by
      obtain ⟨b, off, e2, hc⟩ := h3 h0
      refine ⟨⟨b, off, none⟩, e2, fun j u hj => ?_⟩
      have hjl : j < ks.length := by have := (List.getElem?_eq_some_iff.1 hj).1; simpa using this
      rw [Addr.add_mid, hc j hjl]
      rw [List.getElem?_map, List.getElem?_eq_getElem hjl] at hj
      simp only [Option.map_some, Option.some.injEq] at hj
      rw [← hj]
      simp [List.getElem?_eq_getElem hjl]) (fun u hu => by simp only [List.mem_map] at hu; obtain ⟨x, _, rfl⟩ := hu; rfl) (by unfold maxLen; omega) (by omega) hb
  rw [Nat.zero_add] at hrun hown
  rw [List.nil_append] at hown
  refine ⟨g, capn, w', hrun, ⟨some ⟨g, 0, none⟩, capn, rfl, h1, h2, fun h0 => ⟨g, 0, rfl, fun i hi => ?_⟩⟩, hgrow, (hown.lt g rfl).1⟩
  rw [Nat.zero_add, hown.cellAt i (by omega), List.getElem?_map, List.getElem?_eq_getElem hi]
  simp
end Go.Proofs.Ythbiibinmofmfaa
