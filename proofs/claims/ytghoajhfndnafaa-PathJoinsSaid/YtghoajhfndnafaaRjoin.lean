/- The document's Text, Join. -/
import Derived.Test.YtghoajhfndnafaaRsplit

namespace Go.Proofs.Ytghoajhfndnafaa
set_option maxRecDepth 100000
open Go.RowKit

theorem join_take_succ (l : List Tx) (k : Nat) (h : k < l.length) : Pn.join (l.take (k + 1)) = if k = 0 then l[k]'h else Pn.join (l.take k) ++ [47] ++ l[k]'h := by
  rw [List.take_succ_eq_append_getElem h]
  generalize l[k]'h = x
  by_cases hk : k = 0
  · subst hk
    simp [Pn.join_one]
  · rw [if_neg hk]
    have hne : l.take k ≠ [] := by
      intro e
      have := congrArg List.length e
      rw [List.length_take, List.length_nil] at this
      omega
    generalize l.take k = q at hne
    clear h hk
    induction q with
    | nil => exact absurd rfl hne
    | cons a t ih =>
      cases t with
      | nil => rw [List.cons_append, List.nil_append, Pn.join_cons2, Pn.join_one, Pn.join_one]; simp
      | cons b r =>
        rw [List.cons_append, List.cons_append, Pn.join_cons2, Pn.join_cons2]
        rw [List.cons_append] at ih
        rw [ih (by simp)]
        simp

set_option maxRecDepth 100000 in
set_option maxHeartbeats 4000000 in
theorem rtext_any (v : Value) (l : List Tx) (w : World) (h : Ss w v l) (hl : l.length ≤ 1000) (hs : Pn.lens l ≤ 1000000) :
    Calls Try.prog 35 #[v] w fun e w' => e = .returned (.string (bx (Pn.join l))) ∧ w' = w := by
  have HS2 := Lib.hid (fun k (hk : k ≤ l.length) => show (Pn.join (l.take k)).length ≤ 1002000 by
    rw [Pn.join_size]
    have h1 : Pn.lens (l.take k) ≤ Pn.lens l := by
      unfold Pn.lens
      conv => rhs; rw [← List.take_append_drop k l]
      rw [List.map_append, List.sum_append]
      omega
    have h2 : (l.take k).length ≤ l.length := by rw [List.length_take]; omega
    omega)
  have HS3 := Lib.hid (fun k (hk : k < l.length) => show (l[k]'hk).length ≤ 1000000 by
    have h1 := Pn.lens_take_succ l k hk
    have h2 : Pn.lens (l.take (k + 1)) ≤ Pn.lens l := by
      unfold Pn.lens
      conv => rhs; rw [← List.take_append_drop (k + 1) l]
      rw [List.map_append, List.sum_append]
      omega
    omega)
  obtain ⟨n, hn⟩ : ∃ n, n = l.length := ⟨_, rfl⟩
  have HN := Lib.hid hn
  rcases h.at with ⟨a1, c1, rfl, -, hL⟩ | ⟨b1, o1, c1, rfl, -, -, -, d1⟩
  · subst hL
    clear h hn HN hl hs HS2 HS3
    go_enter Try.func35, Try.ntmps35
    go_wp2_with fail
    go_loopw [3, 4] (fun s3 s4 wr => s3 = .string ⟨#[]⟩ ∧ s4 = .int .i64 0 ∧ wr = w) (fun _ _ _ => 0)
    case atStart => exact ⟨rfl, rfl, rfl⟩
    case round =>
      obtain ⟨rfl, rfl, rfl⟩ := hrel
      go_wp2_with fail
      go_ret
      exact ⟨rfl, rfl⟩
  · have D1 := Lib.hid d1
    rw [← hn] at hl ⊢
    clear h d1 hs hn
    go_enter Try.func35, Try.ntmps35
    go_wp2_with fail
    go_loopw [3, 4] (fun s3 s4 wr => ∃ k : Nat, k ≤ n ∧ s3 = .string (bx (Pn.join (l.take k))) ∧ s4 = .int .i64 (k : Int) ∧ wr = w) (fun _ s4 _ => n - (intOf s4).toNat)
    case atStart => exact ⟨0, Nat.zero_le _, rfl, rfl, rfl⟩
    case round =>
      obtain ⟨k, hk, rfl, rfl, rfl⟩ := hrel
      by_cases hlt : k < n
      · have hkl : k < l.length := by rw [← HN.out]; exact hlt
        have hcx := D1.out k hkl
        have hstep := join_take_succ l k hkl
        have z1 := HS2.out k (by omega)
        have z2 := HS3.out k hkl
        generalize l[k]'hkl = x at hcx hstep z2
        have m1 := bx_size x
        have m2 := bx_size (Pn.join (l.take k))
        have HB : Hid (Pn.join (l.take (k + 1)) = if k = 0 then x else Pn.join (l.take k) ++ [47] ++ x) := hstep
        have w0 : IntKind.i64.wrap ((k : Int) + 1) = (k : Int) + 1 := IntWalk.i64_in _ (by omega)
        obtain ⟨T, hT⟩ : ∃ T, T = bx (Pn.join (l.take k)) := ⟨_, rfl⟩
        obtain ⟨X, hX⟩ : ∃ X, X = bx x := ⟨_, rfl⟩
        rw [← hT] at m2 ⊢
        rw [← hX] at m1 hcx
        by_cases hk0 : k = 0
        · have HT : Hid (bx (Pn.join (l.take (k + 1))) = T ++ X) := by
            show _ = _
            rw [HB.out, if_pos hk0, hT, hX, hk0]
            apply ByteArray.ext
            simp [bx, Pn.join_nil]
          have q0 : decide ((k : Int) > 0) = false := by simp; omega
          have q00 : ¬ 0 < k := by omega
          have j1 : T.size + X.size ≤ 9223372036854775807 := by omega
          clear hstep z1 z2 HB m2 m1 hT hX hk0
          go_wp2_with fail
          go_roundw
          case rel => exact ⟨k + 1, by omega, by rw [HT.out], by go_num, by first | rfl | trivial⟩
          case measure => simp [intOf] <;> omega
        · have HT : Hid (bx (Pn.join (l.take (k + 1))) = T ++ ⟨#[47]⟩ ++ X) := by
            show _ = _
            rw [HB.out, if_neg hk0, hT, hX, bx_append, bx_append]
            rfl
          have q0 : decide ((k : Int) > 0) = true := by simp; omega
          have q00 : 0 < k := by omega
          have j1 : T.size + 1 ≤ 9223372036854775807 := by omega
          have j2 : T.size + 1 + X.size ≤ 9223372036854775807 := by omega
          clear hstep z1 z2 HB m2 m1 hT hX hk0
          go_wp2_with fail
          go_roundw
          case rel => exact ⟨k + 1, by omega, by rw [HT.out], by go_num, by first | rfl | trivial⟩
          case measure => simp [intOf] <;> omega
      · obtain rfl : k = n := by omega
        have HT : Hid (bx (Pn.join (l.take k)) = bx (Pn.join l)) := by show _ = _; rw [List.take_of_length_le (by rw [← HN.out]; exact Nat.le_refl _)]
        generalize bx (Pn.join (l.take k)) = J at HT ⊢
        clear hlt
        go_wp2_with fail
        go_ret
        exact ⟨by rw [← HT.out]; rfl, rfl⟩
theorem lens_names {l : List Tx} (h : l.all Pn.name = true) (h8 : l.length ≤ 8) : Pn.lens l ≤ 1000000 := by
  have := Pn.lens_le l h
  omega

set_option maxRecDepth 100000 in
set_option maxHeartbeats 4000000 in
theorem rjoin_any (v : Value) (l : List Tx) (w : World) (h : Ss w v l) :
    Calls Try.prog 20 #[v] w fun e w' => e = .returned (.tuple #[.string (bx (Pn.joined l).1), .int .i64 (ec (Pn.path l))]) ∧ w' = w := by
  obtain ⟨J, hJ⟩ : ∃ J, J = bx (Pn.joined l).1 := ⟨_, rfl⟩
  obtain ⟨z, hz⟩ : ∃ z, z = Pn.path l := ⟨_, rfl⟩
  rw [← hJ, ← hz]
  have HJ1 : Hid (z = false → J = ⟨#[]⟩) := fun h => by rw [hJ]; rw [hz] at h; simp only [Pn.joined, h]; rfl
  have HJ2 : Hid (z = true → J = bx (Pn.join l)) := fun h => by rw [hJ]; rw [hz] at h; simp only [Pn.joined, h]; rfl
  have HZ := Lib.hid hz
  clear hJ hz
  obtain ⟨n, hn⟩ : ∃ n, n = l.length := ⟨_, rfl⟩
  have HN := Lib.hid hn
  by_cases h8 : 8 < n
  · have hzf : Hid (z = false) := by show _ = _; rw [HZ.out]; exact path_long (by omega)
    have q1 : decide ((n : Int) > 8) = true := by simp; omega
    obtain ⟨a, c, rfl, -⟩ := h
    rw [← hn]
    clear hn h8
    go_enter Try.func20, Try.ntmps20
    go_wp2_with fail
    go_ret2
    exact ⟨by rw [HJ1.out hzf.out, hzf.out]; rfl, rfl⟩
  · have q1 : decide ((n : Int) > 8) = false := by simp; omega
    have hn8 : n ≤ 8 := by omega
    have HS := Lib.hid h
    have HT := Lib.hid (fun (ha : l.all Pn.name = true) => rtext_any v l w h (by omega) (lens_names ha (by omega)))
    have HSZ := Lib.hid (bx_size (Pn.join l))
    rcases h.at with ⟨a1, c1, rfl, -, hL⟩ | ⟨b1, o1, c1, rfl, -, g1, -, d1⟩
    · have hn0 : n = 0 := by rw [HN.out, hL]; rfl
      have hzt : Hid (z = true) := by show _ = _; rw [HZ.out, hL]; decide
      have HT2 := Lib.hid (HT.out (by rw [hL]; rfl))
      have hj : Pn.join l = [] := by rw [hL]; rfl
      have hj2 : J = ⟨#[]⟩ := by rw [HJ2.out hzt.out, hj]; rfl
      rw [hj] at HT2
      have e0 : bx ([] : Tx) = ⟨#[]⟩ := rfl
      rw [e0, ← hn, hn0] at HT2
      rw [← hn, hn0, hj2, hzt.out]
      clear HS HT HSZ hj hj2 e0 h hn h8 q1 HJ1 HJ2 HZ hL
      go_enter Try.func20, Try.ntmps20
      go_wp2_with fail
      go_loopw [4] (fun s4 wr => s4 = .int .i64 0 ∧ wr = w) (fun _ _ => 0)
      case atStart => exact ⟨rfl, rfl⟩
      case round =>
        obtain ⟨rfl, rfl⟩ := hrel
        go_wp2_with fail
        refine HT2.out.mono ?_
        rintro e w3 ⟨rfl, rfl⟩
        go_wp2_with fail
        go_ret2
        exact ⟨rfl, rfl⟩
    · have D1 := Lib.hid d1
      rw [← hn] at HT ⊢
      clear h d1 g1 hn h8 HS
      go_enter Try.func20, Try.ntmps20
      go_wp2_with fail
      go_loopw [4] (fun s4 wr => ∃ k : Nat, k ≤ n ∧ s4 = .int .i64 (k : Int) ∧ wr = w ∧ Hid ((l.take k).all Pn.name = true)) (fun s4 _ => n - (intOf s4).toNat)
      case atStart => exact ⟨0, Nat.zero_le _, rfl, rfl, rfl⟩
      case round =>
        obtain ⟨k, hk, rfl, rfl, HA⟩ := hrel
        by_cases hlt : k < n
        · have hkl : k < l.length := by rw [← HN.out]; exact hlt
          have hcx := D1.out k hkl
          have HNM := Lib.hid (rname_any (l[k]'hkl) wr)
          have HX : Hid (Pn.name (l[k]'hkl) = true → (l.take (k + 1)).all Pn.name = true) := fun h => by rw [all_take_succ' l k hkl, HA.out, h]; rfl
          have HY : Hid (Pn.name (l[k]'hkl) = false → z = false) := fun h => by rw [HZ.out]; exact path_bad k hkl h
          generalize l[k]'hkl = x at hcx HNM HX HY
          generalize bx x = X at hcx HNM
          cases hnm : Pn.name x with
          | false =>
            have hzf := Lib.hid (HY.out hnm)
            rw [hnm] at HNM
            clear hnm HX HY HA
            go_wp2_with (go_at_call 16; refine HNM.out.mono ?_; rintro e w3 ⟨rfl, rfl⟩; simp only [ec])
            go_ret2
            exact ⟨by rw [HJ1.out hzf.out, hzf.out]; rfl, rfl⟩
          | true =>
            have HT3 := Lib.hid (HX.out hnm)
            rw [hnm] at HNM
            have w0 : IntKind.i64.wrap ((k : Int) + 1) = (k : Int) + 1 := IntWalk.i64_in _ (by omega)
            clear hnm HX HY HA
            go_wp2_with (go_at_call 16; refine HNM.out.mono ?_; rintro e w3 ⟨rfl, rfl⟩; simp only [ec])
            go_roundw
            case rel => exact ⟨k + 1, by omega, by go_num, by first | rfl | trivial, HT3⟩
            case measure => simp [intOf] <;> omega
        · obtain rfl : k = n := by omega
          have hall : l.all Pn.name = true := by
            have h := HA.out
            rwa [List.take_of_length_le (by rw [← HN.out]; exact Nat.le_refl _)] at h
          have HT3 := Lib.hid (HT.out hall)
          have hsz := HSZ.out
          obtain ⟨m, hm⟩ : ∃ m, m = (Pn.join l).length := ⟨_, rfl⟩
          rw [← hm] at hsz
          by_cases h120 : m ≤ 120
          · have hzt : Hid (z = true) := by show _ = _; rw [HZ.out]; exact path_good (by rw [← HN.out]; exact hn8) hall (by omega)
            have hj2 : Hid (J = bx (Pn.join l)) := HJ2.out hzt.out
            have q2 : decide ((m : Int) > 120) = false := by simp; omega
            generalize bx (Pn.join l) = Z at HT3 hsz hj2
            clear hlt HA hall hm h120 HJ1 HJ2 HZ HT
            go_wp2_with fail
            refine HT3.out.mono ?_
            rintro e w3 ⟨rfl, rfl⟩
            go_wp2_with fail
            go_ret2
            exact ⟨by rw [hzt.out, hj2.out]; rfl, rfl⟩
          · have hzf : Hid (z = false) := by
              show _ = _
              rw [HZ.out]
              simp only [Pn.path]
              simp
              omega
            have q2 : decide ((m : Int) > 120) = true := by simp; omega
            generalize bx (Pn.join l) = Z at HT3 hsz HJ2
            clear hlt HA hall hm h120 HZ HT
            go_wp2_with fail
            refine HT3.out.mono ?_
            rintro e w3 ⟨rfl, rfl⟩
            go_wp2_with fail
            go_ret2
            exact ⟨by rw [HJ1.out hzf.out, hzf.out]; rfl, rfl⟩
end Go.Proofs.Ytghoajhfndnafaa
