/- Rows of lengths, one after the other: plain facts, and the contract of next. -/
import Derived.Test.YtedbonnejgpjeaaLarg
namespace Go.Proofs.Ytedbonnejgpjeaa
open Go.RowKit

namespace Lm
/-- The next row. -/
def nx (M : Nat) : List Nat → Option (List Nat)
  | [] => none
  | x :: r => if x < M then some ((x + 1) :: r) else (nx M r).map (1 :: ·)
/-- Its number. -/
def vl (M : Nat) : List Nat → Nat
  | [] => 0
  | x :: r => (x - 1) + M * vl M r
/-- A row of lengths from 1 to M. -/
def Ok (M : Nat) (l : List Nat) : Prop := ∀ x ∈ l, 1 ≤ x ∧ x ≤ M
theorem nx_ok (M : Nat) (hM : 1 ≤ M) : ∀ l r : List Nat, Ok M l → nx M l = some r → Ok M r ∧ r.length = l.length ∧ vl M r = vl M l + 1
  | [], r, _, h => by simp [nx] at h
  | x :: l, r, ho, h => by
    have hx := ho x (by simp)
    unfold nx at h
    by_cases hlt : x < M
    · rw [if_pos hlt] at h
      cases h
      refine ⟨fun y hy => ?_, rfl, ?_⟩
      · rcases List.mem_cons.1 hy with rfl | hy
        · omega
        · exact ho y (by simp [hy])
      · simp only [vl]; omega
    · rw [if_neg hlt] at h
      obtain ⟨s, hs, rfl⟩ := Option.map_eq_some_iff.1 h
      obtain ⟨h1, h2, h3⟩ := nx_ok M hM l s (fun y hy => ho y (by simp [hy])) hs
      refine ⟨fun y hy => ?_, by simp [h2], ?_⟩
      · rcases List.mem_cons.1 hy with rfl | hy
        · omega
        · exact h1 y hy
      · simp only [vl, h3, Nat.mul_add]
        have : x = M := by omega
        omega
theorem vl_lt (M : Nat) (hM : 1 ≤ M) : ∀ l : List Nat, Ok M l → vl M l < M ^ l.length
  | [], _ => by simp [vl]
  | x :: l, ho => by
    have hx := ho x (by simp)
    have ih := vl_lt M hM l fun y hy => ho y (by simp [hy])
    have h1 : M * vl M l + M ≤ M * M ^ l.length := by
      have := Nat.mul_le_mul_left M (show vl M l + 1 ≤ M ^ l.length by omega)
      rw [Nat.mul_add, Nat.mul_one] at this; exact this
    simp only [vl, List.length_cons, Nat.pow_succ]
    rw [Nat.mul_comm (M ^ l.length) M]
    omega
theorem nx_none (M : Nat) (hM : 1 ≤ M) : ∀ l : List Nat, Ok M l → nx M l = none → vl M l + 1 = M ^ l.length
  | [], _, _ => rfl
  | x :: l, ho, h => by
    have hx := ho x (by simp)
    unfold nx at h
    by_cases hlt : x < M
    · rw [if_pos hlt] at h; cases h
    · rw [if_neg hlt] at h
      have ih := nx_none M hM l (fun y hy => ho y (by simp [hy])) (by simpa using h)
      simp only [vl, List.length_cons, Nat.pow_succ, ← ih]
      rw [Nat.add_mul, Nat.one_mul, Nat.mul_comm (vl M l) M]
      omega
theorem vl_inj (M : Nat) (hM : 1 ≤ M) : ∀ l r : List Nat, Ok M l → Ok M r → l.length = r.length → vl M l = vl M r → l = r
  | [], r, _, _, h, _ => (List.eq_nil_of_length_eq_zero h.symm).symm
  | x :: l, [], _, _, h, _ => by simp at h
  | x :: l, y :: r, h1, h2, hl, hv => by
    have hx := h1 x (by simp)
    have hy := h2 y (by simp)
    simp only [vl] at hv
    have e1 : (x - 1 + M * vl M l) % M = x - 1 := by rw [Nat.add_mul_mod_self_left, Nat.mod_eq_of_lt (by omega)]
    have e2 : (y - 1 + M * vl M r) % M = y - 1 := by rw [Nat.add_mul_mod_self_left, Nat.mod_eq_of_lt (by omega)]
    rw [hv, e2] at e1
    have exy : x = y := by omega
    subst exy
    have hm : M * vl M l = M * vl M r := by omega
    have := vl_inj M hM l r (fun z hz => h1 z (by simp [hz])) (fun z hz => h2 z (by simp [hz])) (by simpa using hl) (Nat.eq_of_mul_eq_mul_left (by omega) hm)
    rw [this]
end Lm

/-- Block C reads these numbers. -/
def Bk (w : World) (C : Nat) (xs : List Nat) : Prop := C < w.heap.size ∧ ∀ (i x : Nat), xs[i]? = some x → w.cell? ⟨C, i, none⟩ = some (.int .i64 (x : Int)) ∧ w.frozen? ⟨C, i, none⟩ = false
theorem Bk.set {w : World} {C : Nat} {xs : List Nat} (h : Bk w C xs) (i x : Nat) (hi : i < xs.length) : Bk (w.setCell ⟨C, i, none⟩ (.int .i64 (x : Int))) C (xs.set i x) := by
  refine ⟨by simpa using h.1, fun j y hj => ?_⟩
  rw [World.frozen?_setCell]
  have hjl := (List.getElem?_eq_some_iff.1 hj).1
  rw [List.length_set] at hjl
  obtain ⟨c0, f0⟩ := h.2 j _ (List.getElem?_eq_getElem hjl)
  refine ⟨?_, f0⟩
  by_cases e : j = i
  · subst e
    rw [List.getElem?_set_self hi] at hj
    cases hj
    exact World.cell?_setCell_same' _ _ _ (by rw [c0]; rfl)
  · rw [List.getElem?_set_ne (by omega)] at hj
    rw [World.cell?_setCell_other _ _ _ _ (addr_ne C (by omega))]
    exact (h.2 j y hj).1
theorem Bk.drewN {w : World} {C : Nat} {xs : List Nat} (h : Bk w C xs) (q : Nat) : Bk (w.drewN q) C xs := ⟨h.1, h.2⟩

/-- What next leaves. -/
def NextPost (w : World) (C M : Nat) (l : List Nat) (e : Ending) (w' : World) : Prop :=
  Only C w w' ∧ ((∃ r, Lm.nx M l = some r ∧ e = .returned (.bool true) ∧ Bk w' C r) ∨ (Lm.nx M l = none ∧ e = .returned (.bool false)))

set_option maxHeartbeats 4000000 in
theorem next_any (C n cap M : Nat) (l : List Nat) (w : World) (h : Bk w C l) (hn : n = l.length) (hn5 : n ≤ 5) (_hM : M ≤ 15) (hl : ∀ x ∈ l, x ≤ 15) :
    Calls Try.prog 18 #[.slice (some ⟨C, 0, none⟩) n cap, .int .i64 (M : Int)] w (NextPost w C M l) := by
  have HB := Lib.hid h
  have HN := Lib.hid hn
  have HL := Lib.hid hl
  clear h hn hl
  go_enter Try.func18, Try.ntmps18
  go_wp2
  go_loopw [5] (fun s5 wr => ∃ (i : Nat) (rest : List Nat), i ≤ n ∧ s5 = .int .i64 (i : Int) ∧ Hid (i + rest.length = n) ∧ Hid (Unit → Lm.nx M l = (Lm.nx M rest).map (fun r => List.replicate i 1 ++ r)) ∧ Hid (Bk wr C (List.replicate i 1 ++ rest)) ∧ Hid (Only C w wr) ∧ Hid (∀ x ∈ rest, x ≤ 15)) (fun s _ => n - (intOf s).toNat)
  case atStart => exact ⟨0, l, Nat.zero_le _, rfl, by show _ = _; have := HN.out; omega, fun _ => by simp, by show Bk _ _ _; simpa using HB.out, Only.refl _ _, HL.out⟩
  case round =>
    obtain ⟨i, rest, hi, rfl, KL, KX, KB, KO, KH⟩ := hrel
    by_cases hlt : i < n
    · obtain ⟨x, r, rfl⟩ : ∃ x r, rest = x :: r := by
        cases rest with
        | nil => have := KL.out; simp at this; omega
        | cons x r => exact ⟨x, r, rfl⟩
      have hx := KH.out x (by simp)
      have hget : (List.replicate i 1 ++ x :: r)[i]? = some x := by rw [List.getElem?_append_right (by simp)]; simp
      obtain ⟨c0, f0⟩ := KB.out.2 i x hget
      have hlen : i < (List.replicate i 1 ++ x :: r).length := by simp
      have hKL : i + (r.length + 1) = n := KL.out
      by_cases hxm : x < M
      · have t1 : decide ((x : Int) < (M : Int)) = true := by simp; omega
        have hs := KB.out.set i (x + 1) hlen
        have he : (List.replicate i 1 ++ x :: r).set i (x + 1) = List.replicate i 1 ++ (x + 1) :: r := by rw [List.set_append_right _ _ (by simp)]; simp
        rw [he] at hs
        have HS := Lib.hid hs
        have HX : Hid (Unit → Lm.nx M l = some (List.replicate i 1 ++ (x + 1) :: r)) := fun _ => by rw [KX.out ()]; unfold Lm.nx; rw [if_pos hxm]; rfl
        have HO := Lib.hid (KO.out.trans (only_set wr C i (.int .i64 ((x + 1 : Nat) : Int))))
        clear hget hlen hs he KX KB KO KH KL hKL
        go_wp2
        go_ret
        exact ⟨HO.out, .inl ⟨_, HX.out (), rfl, HS.out⟩⟩
      · have t1 : decide ((x : Int) < (M : Int)) = false := by simp; omega
        have hs := KB.out.set i 1 hlen
        have he : (List.replicate i 1 ++ x :: r).set i 1 = List.replicate (i + 1) 1 ++ r := by rw [List.set_append_right _ _ (by simp), List.replicate_succ']; simp
        rw [he] at hs
        have HS := Lib.hid hs
        have HX : Hid (Unit → Lm.nx M l = (Lm.nx M r).map (fun r => List.replicate (i + 1) 1 ++ r)) := fun _ => by
          rw [KX.out ()]
          conv => lhs; unfold Lm.nx
          rw [if_neg hxm, Option.map_map]
          congr 1
          funext s
          show List.replicate i 1 ++ 1 :: s = _
          rw [List.replicate_succ', List.append_assoc]; rfl
        have HO := Lib.hid (KO.out.trans (only_set wr C i (.int .i64 ((1 : Nat) : Int))))
        have HH : Hid (∀ y ∈ r, y ≤ 15) := fun y hy => KH.out y (by simp [hy])
        have HKL : Hid (i + 1 + r.length = n) := by show _ = _; omega
        clear hget hlen hs he KX KB KO KH KL hKL
        go_wp2_with fail
        go_roundw
        case rel => exact ⟨i + 1, r, by omega, by go_num, HKL, HX, HS, HO, HH⟩
        case measure => simp [intOf]; omega
    · obtain rfl : i = n := by omega
      have hr : rest = [] := List.eq_nil_of_length_eq_zero (by have := KL.out; omega)
      subst hr
      have HX : Hid (Unit → Lm.nx M l = none) := fun _ => by rw [KX.out ()]; rfl
      clear KX KL KB
      go_wp2
      go_ret
      exact ⟨KO.out, .inr ⟨HX.out (), rfl⟩⟩

/-- Where an append of one value lays its list. -/
theorem app1_block {w : World} {base n : Nat} {v v' : Value} {w' : World} {xs : List Value} (hown : w.ownsRow base 3 1 v n xs) (g : Nat) (x : Value) (hx : x.oneCell' = true) (hc : w.cell? ⟨g, 0, none⟩ = some x) (hn : n ≤ 1000)
    (hrun : (Builtin.append_ #[22, 22] 22 #[v, .slice (some ⟨g, 0, none⟩) 1 1]).run Try.prog w = .ok v' w') : v'.ownBlock = v.ownBlock ∨ v'.ownBlock = some w.heap.size := by
  obtain ⟨i0, hi, hz0, hz1, hz2⟩ := info_parts Try.infoInt
  have hnews : ∀ (j : Nat) (u : Value), [x][j]? = some u → w.cell? ((⟨g, 0, none⟩ : Addr).add j) = some u := fun j u hj => by
    match j, hj with
    | 0, hj =>
      simp at hj
      subst hj
      simpa [Addr.add] using hc
  rcases hown.2 with ⟨rfl, rfl⟩ | ⟨b, cap, cur, rfl, _, hg, hle, hcm, hcs, _⟩
  · have hr := run_append_nil (P := Try.prog) w 22 22 3 i0 (.int .i64 0) Try.underlying22 hi hz0 ⟨g, 0, none⟩ 1 1 [x] (by rw [hz1]; rfl) hnews (by omega) (by omega) (by rw [hz2]; omega)
    rw [hrun] at hr
    injection hr with h1 h2
    exact .inr (by rw [h1]; rfl)
  · by_cases hroom : n + 1 ≤ cap
    · have hr := run_append_room (P := Try.prog) w 22 22 3 i0 Try.underlying22 hi b n cap cur hg ⟨g, 0, none⟩ 1 1 [x] (by rw [hz1]; rfl) hnews (fun u hu => by simp at hu; subst hu; exact hx) hroom (by rw [hz1]; simp; omega)
      rw [hrun] at hr
      injection hr with h1 h2
      exact .inl (by rw [h1]; rfl)
    · have holds : ∀ j u, xs[j]? = some u → w.cell? ((⟨b, 0, none⟩ : Addr).add j) = some u := hown.cells (g := b) rfl
      have hr := run_append_grow (P := Try.prog) w 22 22 3 i0 (.int .i64 0) Try.underlying22 hi hz0 ⟨b, 0, none⟩ n cap xs (by rw [hz1]; exact hown.1) holds ⟨g, 0, none⟩ 1 1 [x] (by rw [hz1]; rfl) hnews (by omega) (by omega) (growslice_fits (by omega) (by rw [hz2]; omega))
      rw [hrun] at hr
      injection hr with h1 h2
      exact .inr (by rw [h1]; rfl)

/-- Two lists of the call's own, in memory of their own. -/
def Io2 (base : Nat) (w : World) (f l : Value) (xs ys : List Nat) : Prop := Io base w f xs ∧ Io base w l ys ∧ ∀ b, f.ownBlock = some b → l.ownBlock ≠ some b
theorem Io2.swap {base : Nat} {w : World} {f l : Value} {xs ys : List Nat} (h : Io2 base w f l xs ys) : Io2 base w l f ys xs := ⟨h.2.1, h.1, fun b h1 h2 => h.2.2 b h2 h1⟩
theorem Io2.more {w wr : World} {f l : Value} {xs ys : List Nat} (h : Io2 w.heap.size wr f l xs ys) (hb : Below w.heap.size w wr) (x : Nat) (hl : xs.length ≤ 900) :
    ∃ g' cap' w2, (Builtin.append_ #[22, 22] 22 #[f, .slice (some ⟨wr.heap.size, 0, none⟩) 1 1]).run Try.prog (wr.alloc (.cells #[.int .i64 (x : Int)] 3)) = .ok (.slice (some ⟨g', 0, none⟩) (xs.length + 1) cap') w2 ∧
      Hid (Io2 w.heap.size w2 (.slice (some ⟨g', 0, none⟩) (xs.length + 1) cap') l (xs ++ [x]) ys) ∧ Below w.heap.size w w2 := by
  obtain ⟨hf, hll, hd⟩ := h
  have hf' : wr.ownsRow w.heap.size 3 1 f xs.length (vi xs) := hf
  have hl' : wr.ownsRow w.heap.size 3 1 l ys.length (vi ys) := hll
  have k2 := hf'.alloc (.cells #[.int .i64 (x : Int)] 3)
  have hc := (Has.new wr (.cells #[.int .i64 (x : Int)] 3)).one.1
  have hsz := hb.size
  obtain ⟨v', w2, hrun, ho, hg⟩ := run_app1 22 3 (.int .i64 0) Try.underlying22 Try.infoInt rfl 22 k2 wr.heap.size _ rfl hc (by omega) (by simp; omega)
  have hblk := app1_block k2 wr.heap.size _ rfl hc (by omega) hrun
  obtain ⟨g', cap', rfl⟩ := ownsRow_succ ho
  have hne : l.ownBlock = none ∨ l.ownBlock ≠ f.ownBlock := by
    cases e : l.ownBlock with
    | none => exact .inl rfl
    | some b => exact .inr fun e2 => hd b e2.symm e
  refine ⟨g', cap', w2, hrun, ⟨?_, (hl'.alloc _).kept hg hne, fun b h1 h2 => ?_⟩, (hb.trans ((below1 wr _).mono hsz)).grown hg (by simp; omega) (fun q e => (World.ownsRow.lt hf' q e).1)⟩
  · show w2.ownsRow _ _ _ _ (xs ++ [x]).length (vi (xs ++ [x]))
    rw [vi_snoc, List.length_append]; exact ho
  · rcases hblk with h | h
    · rw [h] at h1; exact hd b h1 h2
    · rw [h] at h1
      have := (World.ownsRow.lt hl' b h2).2
      simp at h1
      omega
end Go.Proofs.Ytedbonnejgpjeaa
