/- The document's Pieces. -/
import Derived.Test.YtghoajhfndnafaaRname

namespace Go.Proofs.Ytghoajhfndnafaa
set_option maxRecDepth 100000
open Go.RowKit

/-- What stands when the loop comes to byte i. -/
def Pc (s : Tx) (i fr : Nat) (out : List Tx) : Prop :=
  (i ≤ s.length ∧ fr ≤ i ∧ Pn.pieces s = out ++ Pn.pieces (s.drop fr) ∧ (47 : UInt8) ∉ (s.drop fr).take (i - fr)) ∨ (i = s.length + 1 ∧ out = Pn.pieces s)

theorem Pc.start (s : Tx) : Pc s 0 0 [] := Or.inl ⟨Nat.zero_le _, Nat.le_refl _, by simp, by simp⟩
theorem Pc.last (s : Tx) (fr : Nat) (out : List Tx) (h : Pc s s.length fr out) : fr ≤ s.length ∧ Pc s (s.length + 1) (s.length + 1) (out ++ [(s.drop fr).take (s.length - fr)]) := by
  rcases h with ⟨_, h1, h2, h3⟩ | ⟨h, _⟩
  · refine ⟨h1, Or.inr ⟨rfl, ?_⟩⟩
    have e : (s.drop fr).take (s.length - fr) = s.drop fr := List.take_of_length_le (by simp)
    rw [e] at h3 ⊢
    rw [h2, Pn.pieces_plain _ h3]
  · omega
theorem Pc.cut (s : Tx) (i fr : Nat) (out : List Tx) (h : Pc s i fr out) (hi : i < s.length) (hc : s[i]'hi = 47) : fr ≤ i ∧ Pc s (i + 1) (i + 1) (out ++ [(s.drop fr).take (i - fr)]) := by
  rcases h with ⟨_, h1, h2, h3⟩ | ⟨h, _⟩
  · refine ⟨h1, Or.inl ⟨by omega, Nat.le_refl _, ?_, by simp⟩⟩
    have e : s.drop fr = (s.drop fr).take (i - fr) ++ 47 :: s.drop (i + 1) := by
      conv => lhs; rw [← List.take_append_drop (i - fr) (s.drop fr)]
      congr 1
      rw [List.drop_drop, show fr + (i - fr) = i by omega, List.drop_eq_getElem_cons hi, hc]
    rw [h2]
    conv => lhs; rw [e]
    rw [Pn.pieces_cut _ _ h3]
    simp
  · omega
theorem Pc.skip (s : Tx) (i fr : Nat) (out : List Tx) (h : Pc s i fr out) (hi : i < s.length) (hc : s[i]'hi ≠ 47) : Pc s (i + 1) fr out := by
  rcases h with ⟨_, h1, h2, h3⟩ | ⟨h, _⟩
  · refine Or.inl ⟨by omega, by omega, h2, ?_⟩
    have hl : i - fr < (s.drop fr).length := by simp; omega
    rw [show i + 1 - fr = (i - fr) + 1 by omega, List.take_succ_eq_append_getElem hl]
    intro hm
    rcases List.mem_append.1 hm with hm | hm
    · exact h3 hm
    · simp only [List.mem_singleton, List.getElem_drop] at hm
      apply hc
      rw [hm]
      congr 1
      omega
  · omega
theorem Pc.len (s : Tx) (i fr : Nat) (out : List Tx) (h : Pc s i fr out) : out.length ≤ s.length + 1 := by
  rcases h with ⟨_, _, h2, _⟩ | ⟨_, h⟩
  · have := congrArg List.length h2
    have := pieces_len s
    simp only [List.length_append] at *
    omega
  · rw [h]; exact pieces_len s
theorem bx_cut (s : Tx) (a b : Nat) : (bx s).extract a b = bx ((s.drop a).take (b - a)) := by
  apply ByteArray.ext
  simp only [bx, ByteArray.data_extract]
  apply Array.ext'
  simp

set_option maxRecDepth 100000 in
set_option maxHeartbeats 4000000 in
theorem rpieces_any (s : Tx) (w : World) (hs : s.length ≤ 1048576) :
    Calls Try.prog 33 #[.string (bx s)] w fun e w' => ∃ v, e = .returned v ∧ Ot w' w.heap.size v (Pn.pieces s) ∧ Below w.heap.size w w' := by
  have hz := bx_size s
  have HX := Lib.hid (fun a b => bx_cut s a b)
  have HG := Lib.hid (fun (i : Nat) (h : i < s.length) => (show ∃ h' : i < (bx s).size, ((bx s)[i]'h').toNat = (s[i]'h).toNat from ⟨by rw [bx_size]; exact h, by simp [bx, ByteArray.getElem_eq_getElem_data]⟩))
  obtain ⟨S, hS⟩ : ∃ S, S = bx s := ⟨_, rfl⟩
  rw [← hS] at hz HG HX ⊢
  obtain ⟨N, hN⟩ : ∃ N, N = s.length := ⟨_, rfl⟩
  rw [← hN] at hz hs
  have HZ := Lib.hid hN
  clear hS hN
  go_enter Try.func33, Try.ntmps33
  go_wp2_with fail
  go_loopw [3, 4, 5] (fun s3 s4 s5 wr => ∃ (i fr : Nat) (out : List Tx), i ≤ N + 1 ∧ fr ≤ N + 1 ∧ s4 = .int .i64 (fr : Int) ∧ s5 = .int .i64 (i : Int) ∧ Hid (Pc s i fr out) ∧ Hid (Ot wr w.heap.size s3 out) ∧ Hid (Below w.heap.size w wr)) (fun _ _ s5 _ => N + 1 - (intOf s5).toNat)
  case atStart => exact ⟨0, 0, [], by omega, by omega, rfl, rfl, Pc.start s, Ot.nil _ _, Below.refl _ _⟩
  case round =>
    obtain ⟨i, fr, out, hi, hfr, rfl, rfl, HP, HO, HW⟩ := hrel
    by_cases hlt : i ≤ N
    · have hi1 : decide ((i : Int) ≤ (N : Int)) = true := by simp; omega
      have hwr : Hid (w.heap.size ≤ wr.heap.size) := HW.out.size
      have hol : out.length ≤ 2000000 := by have := HP.out.len; have := HZ.out; omega
      have HGR := Lib.hid (fun x => HO.out.grow x hwr.out hol)
      obtain ⟨a0, c0, hs3, _⟩ := HO.out.ss
      by_cases hq : i = N
      · subst hq
        have hi2 : ((i : Int) == (i : Int)) = true := by simp
        obtain ⟨hf1, HP2⟩ : fr ≤ i ∧ Hid (Pc s (i + 1) (i + 1) (out ++ [(s.drop fr).take (i - fr)])) := by
          have h := HP.out
          have e := HZ.out
          rw [e] at h ⊢
          exact h.last
        have hX := HX.out fr i
        obtain ⟨g, cc, w3, hrun, hss, hb3⟩ := HGR.out ((s.drop fr).take (i - fr))
        rw [← hX] at hrun
        generalize (s.drop fr).take (i - fr) = piece at *
        have w0 : IntKind.i64.wrap ((i : Int) + 1) = (i : Int) + 1 := IntWalk.i64_in _ (by omega)
        have r1 : (fr : Int) ≤ (i : Int) := by omega
        have r2 : (0 : Int) ≤ (fr : Int) := by omega
        have r3 : (i : Int) ≤ (S.size : Int) := by omega
        have r4 : (0 : Int) ≤ (i : Int) := by omega
        have HSS := Lib.hid hss
        have HB3 := Lib.hid (hb3.out _ (Nat.le_refl _))
        clear hf1 hss hb3 hX HX HG HGR hol HP HO
        go_wp2_with (at_builtin; refine wpList_append_known rfl (.tmp 22) (.tmp 27) 22 rfl _ _ _ w3 rfl rfl hrun ?_)
        go_roundw
        case rel => exact ⟨i + 1, i + 1, _, by omega, by omega, by go_num, by go_num, HP2, HSS, Lib.hid (HW.out.trans HB3.out)⟩
        case measure => simp [intOf] <;> omega
      · have hi2 : ((i : Int) == (N : Int)) = false := by simp; omega
        have hil : i < s.length := by rw [← HZ.out]; omega
        obtain ⟨hp3, hval⟩ := HG.out i hil
        have x0 : (0 : Int) ≤ (i : Int) := by omega
        have x1 : (i : Int) < (S.size : Int) := by omega
        by_cases hc : s[i]'hil = 47
        · have hv : (S[i]'hp3).toNat = 47 := by rw [hval, hc]; rfl
          obtain ⟨hf1, HP2⟩ : fr ≤ i ∧ Hid (Pc s (i + 1) (i + 1) (out ++ [(s.drop fr).take (i - fr)])) := Pc.cut s i fr out HP.out hil hc
          have hX := HX.out fr i
          obtain ⟨g, cc, w3, hrun, hss, hb3⟩ := HGR.out ((s.drop fr).take (i - fr))
          rw [← hX] at hrun
          generalize (s.drop fr).take (i - fr) = piece at *
          clear hval hc
          have w0 : IntKind.i64.wrap ((i : Int) + 1) = (i : Int) + 1 := IntWalk.i64_in _ (by omega)
          have r1 : (fr : Int) ≤ (i : Int) := by omega
          have r2 : (0 : Int) ≤ (fr : Int) := by omega
          have r3 : (i : Int) ≤ (S.size : Int) := by omega
          have r4 : (0 : Int) ≤ (i : Int) := by omega
          have HSS := Lib.hid hss
          have HB3 := Lib.hid (hb3.out _ (Nat.le_refl _))
          clear hf1 hss hb3 hX HX HG HGR hol HP HO
          go_wp2_with (at_builtin; refine wpList_append_known rfl (.tmp 22) (.tmp 27) 22 rfl _ _ _ w3 rfl rfl hrun ?_)
          go_roundw
          case rel => exact ⟨i + 1, i + 1, _, by omega, by omega, by go_num, by go_num, HP2, HSS, Lib.hid (HW.out.trans HB3.out)⟩
          case measure => simp [intOf] <;> omega
        · have hv : (((S[i]'hp3).toNat : Int) == 47) = false := by
            rw [hval]
            simp only [beq_eq_false_iff_ne]
            intro h
            apply hc
            apply UInt8.toNat_inj.1
            have : (s[i]'hil).toNat = 47 := by omega
            exact this
          have HP2 : Hid (Pc s (i + 1) fr out) := Pc.skip s i fr out HP.out hil hc
          have HO3 : Hid (Ot wr w.heap.size (.slice a0 out.length c0) out) := by have h := HO.out; rw [hs3] at h; exact h
          have w0 : IntKind.i64.wrap ((i : Int) + 1) = (i : Int) + 1 := IntWalk.i64_in _ (by omega)
          clear hval hc HX HG HGR hol HP
          go_wp2_with fail
          go_roundw
          case rel => exact ⟨i + 1, fr, out, by omega, by omega, rfl, by go_num, HP2, HO3, HW⟩
          case measure => simp [intOf] <;> omega
    · have hi1 : decide ((i : Int) ≤ (N : Int)) = false := by simp; omega
      have HE : Hid (out = Pn.pieces s) := by
        rcases HP.out with ⟨h, _⟩ | ⟨_, h⟩
        · have := HZ.out; omega
        · exact h
      have HO2 := HO.out
      rw [HE.out] at HO2
      replace HO2 := Lib.hid HO2
      clear HP HE HO
      go_wp2_with fail
      go_ret
      exact ⟨_, rfl, HO2.out, HW.out⟩
end Go.Proofs.Ytghoajhfndnafaa
