/- Contract of valiselaw11.alike: the program's disk and the document's have the same. -/
import Derived.Test.YtillckjohlbaiaaYbo
import Derived.BigQuiet

namespace Go.Proofs.Ytillckjohlbaiaa
set_option maxRecDepth 100000
open Go.RowKit

set_option maxRecDepth 100000 in
set_option maxHeartbeats 4000000 in
theorem alike_any {w0 w : World} {b : Nat} {d : Ek.Dk} {v : Value} {E G F : Nat → Prop} {ws : World} (h : Bo w0 w b d v d E G F ws) :
    Calls Try.prog 18 #[.pointer (some ⟨b, 0, none⟩), v] w fun e w' => e = .returned (.bool true) ∧ Below w.heap.size w w' := by
  have hok := h.ly.lv.ok
  have hn8 := hok.hi
  have hll : d.loose.length ≤ 1000000 := by have := hok.used; have := hok.count; omega
  have HY := Lib.hid h.ly.lv
  have HV : Hid (∀ W, Below w.heap.size w W → ∀ i : Nat, Calls Try.prog 55 #[v, .int .i64 (i : Int)] W fun e w' => e = .returned (.tuple #[.string (strB (if Ek.readE d i = 0 then Ek.now d i else [])), .int .i64 (Ek.readE d i)]) ∧ Below W.heap.size W w') := fun W hb i => rdisk_read_any W G v d (h.doc.later hb) i
  obtain ⟨a, la, c, lc, rfl, -, -, -⟩ := h.doc
  unfold dv at HV ⊢
  have HB0 := Lib.hid (below1 w (.cells #[.slice a d.n c, .slice la d.loose.length lc, .int .i64 d.left, .bool d.dark] 40))
  have HM0 := Lib.hid (Has.new w (.cells #[.slice a d.n c, .slice la d.loose.length lc, .int .i64 d.left, .bool d.dark] 40))
  have HN : Hid (∀ n, Calls Try.prog 16 #[.pointer (some ⟨b, 0, none⟩)] ((w.alloc (.cells #[.slice a d.n c, .slice la d.loose.length lc, .int .i64 d.left, .bool d.dark] 40)).drewN n) fun e w' => e = .returned (.int .i64 (d.n : Int)) ∧ (w.alloc (.cells #[.slice a d.n c, .slice la d.loose.length lc, .int .i64 d.left, .bool d.dark] 40)).drewN n = w') := fun n => lv_len (HY.out.later (below_drewN HB0.out n))
  have HL : Hid (∀ n, Calls Try.prog 49 #[.pointer (some ⟨b, 0, none⟩)] ((w.alloc (.cells #[.slice a d.n c, .slice la d.loose.length lc, .int .i64 d.left, .bool d.dark] 40)).drewN n) fun e w' => e = .returned (.int .i64 (d.loose.length : Int)) ∧ (w.alloc (.cells #[.slice a d.n c, .slice la d.loose.length lc, .int .i64 d.left, .bool d.dark] 40)).drewN n = w') := fun n => lv_loose (HY.out.later (below_drewN HB0.out n))
  have HK : Hid (∀ n, Calls Try.prog 51 #[.pointer (some ⟨b, 0, none⟩)] ((w.alloc (.cells #[.slice a d.n c, .slice la d.loose.length lc, .int .i64 d.left, .bool d.dark] 40)).drewN n) fun e w' => e = .returned (.bool d.dark) ∧ (w.alloc (.cells #[.slice a d.n c, .slice la d.loose.length lc, .int .i64 d.left, .bool d.dark] 40)).drewN n = w') := fun n => lv_dark (HY.out.later (below_drewN HB0.out n))
  have HRD : Hid (∀ W, Below w.heap.size w W → ∀ i : Nat, Calls Try.prog 50 #[.pointer (some ⟨b, 0, none⟩), .int .i64 (i : Int)] W (RdPost W d i)) := fun W hb i => lv_read (HY.out.later hb) i
  have HROW : Hid (∀ i : Nat, Row (Ek.now d i)) := Ek.now_row hok
  generalize d.loose.length = L at *
  obtain ⟨D, hD⟩ : ∃ D, D = d.dark := ⟨_, rfl⟩
  rw [← hD] at HV HB0 HM0 HN HL HK ⊢
  generalize d.left = F at *
  obtain ⟨N, hN⟩ : ∃ N, N = d.n := ⟨_, rfl⟩
  rw [← hN] at HV HB0 HM0 HN HL HK hn8 ⊢
  have e1 : ((N : Int) != (N : Int)) = false := by simp
  have e2 : ((L : Int) != (L : Int)) = false := by simp
  have e3 : (D != D) = false := by simp
  clear h hok hD hN HY
  go_enter Try.func18, Try.ntmps18
  go_wp2_with fail
  have m0 := (HM0.out.cell 0 : _ = some (Value.slice a N c))
  have m1 := (HM0.out.cell 1 : _ = some (Value.slice la L lc))
  have m3 := (HM0.out.cell 3 : _ = some (Value.bool D))
  go_quiet ((first | (go_at_call 16; exact quiet_left (HN.out _)) | (go_at_call 49; exact quiet_left (HL.out _)) | (go_at_call 51; exact quiet_left (HK.out _))))
  have HB1 := Lib.hid (below_drewN HB0.out nq)
  have HM1 := Lib.hid (HM0.out.later (below_drewN (Below.refl _ _) nq))
  generalize (w.alloc (.cells #[.slice a N c, .slice la L lc, .int .i64 F, .bool D] 40)).drewN nq = W1 at HB1 HM1 ⊢
  clear HB0 HM0 HN HL HK m0 m1 m3 e1 e2 e3
  go_wp2_with fail
  go_loopw [5] (fun s5 wr => ∃ i : Nat, s5 = .int .i64 (i : Int) ∧ i ≤ N ∧ Hid (Below w.heap.size w wr) ∧ Hid (Has wr w.heap.size (.cells #[.slice a N c, .slice la L lc, .int .i64 F, .bool D] 40))) (fun s5 _ => N - (intOf s5).toNat)
  case atStart => exact ⟨0, by go_num, Nat.zero_le _, HB1, HM1⟩
  case round =>
    obtain ⟨i, rfl, hi, KB, KM⟩ := hrel
    have m0 := (KM.out.cell 0 : _ = some (Value.slice a N c))
    by_cases hlt : i < N
    · have j0 : decide ((i : Int) < (N : Int)) = true := decide_eq_true (by omega)
      have j2 : (i : Int) ≤ 8192 := by omega
      have CR := Lib.hid (HRD.out wr KB.out i)
      have hrow := HROW.out i
      by_cases hE : Ek.readE d (i : Int) = 0
      · have CV : Hid (∀ W, Below w.heap.size w W → Calls Try.prog 55 #[.agg #[.slice a N c, .slice la L lc, .int .i64 F, .bool D], .int .i64 (i : Int)] W fun e w' => e = .returned (.tuple #[.string (strB (Ek.now d i)), .int .i64 0]) ∧ Below W.heap.size W w') := fun W hb => by
          have := HV.out W hb i
          rwa [hE, if_pos rfl] at this
        obtain ⟨M, hM⟩ : ∃ M, M = strB (Ek.now d i) := ⟨_, rfl⟩
        have HMq : Hid (M = strB (Ek.now d i)) := hM
        rw [← hM] at CV
        have HE := Lib.hid hE
        have HR := Lib.hid hrow
        clear hE hM hrow hn8 hll
        go_wp2_with fail
        refine CR.out.mono ?_
        rintro e w2 ⟨hb2, hpost⟩
        rcases hpost with ⟨hne, _⟩ | ⟨_, g, rfl, hg, hhas⟩
        · exact absurd HE.out hne
        have KB2 := Lib.hid (KB.out.trans (hb2.mono KB.out.size))
        have KM2 := Lib.hid (KM.out.later hb2)
        have SG := Lib.hid (has_sl hhas HR.out.2 (by rw [show (Ek.now d ((i : Int)).toNat).length = 512 from HR.out.1]; decide) 512 512 HR.out.1.symm)
        clear hb2 hg hhas CR m0 KB KM
        have n0 := (KM2.out.cell 0 : _ = some (Value.slice a N c))
        have n1 := (KM2.out.cell 1 : _ = some (Value.slice la L lc))
        have n2 := (KM2.out.cell 2 : _ = some (Value.int .i64 F))
        have n3 := (KM2.out.cell 3 : _ = some (Value.bool D))
        go_wp2_with fail
        refine (CV.out _ KB2.out).mono ?_
        rintro e w3 ⟨rfl, hb3⟩
        have KB3 := Lib.hid (KB2.out.trans (hb3.mono KB2.out.size))
        have KM3 := Lib.hid (KM2.out.later hb3)
        have hcv := string_of w3 (some ⟨g, 0, none⟩) 512 512 _ M (SG.out.later hb3) HMq
        have hbq : (M.toList == M.toList) = true := beq_self_eq_true _
        clear hb3 n0 n1 n2 n3 SG
        go_wp2_with fail
        go_round
        case rel => exact ⟨i + 1, by go_num, by omega, KB3, KM3⟩
        case measure => simp [intOf]; omega
      · obtain ⟨q, hq⟩ : ∃ q, q = Ek.readE d (i : Int) := ⟨_, rfl⟩
        have CV : Hid (∀ W, Below w.heap.size w W → Calls Try.prog 55 #[.agg #[.slice a N c, .slice la L lc, .int .i64 F, .bool D], .int .i64 (i : Int)] W fun e w' => e = .returned (.tuple #[.string ⟨#[]⟩, .int .i64 q]) ∧ Below W.heap.size W w') := fun W hb => by
          have := HV.out W hb i
          rw [hq]
          rwa [if_neg hE] at this
        have HE := Lib.hid hE
        have HQ := Lib.hid hq
        have hqq : (q != q) = false := by simp
        clear hE hrow hq hn8 hll
        go_wp2_with fail
        refine CR.out.mono ?_
        rintro e w2 ⟨hb2, hpost⟩
        have he := hpost.elim (fun h => h.2) (fun h => absurd h.1 HE.out)
        clear hpost
        rw [← HQ.out] at he
        subst he
        have KB2 := Lib.hid (KB.out.trans (hb2.mono KB.out.size))
        have KM2 := Lib.hid (KM.out.later hb2)
        clear hb2 CR m0 KB KM
        have n0 := (KM2.out.cell 0 : _ = some (Value.slice a N c))
        have n1 := (KM2.out.cell 1 : _ = some (Value.slice la L lc))
        have n2 := (KM2.out.cell 2 : _ = some (Value.int .i64 F))
        have n3 := (KM2.out.cell 3 : _ = some (Value.bool D))
        go_wp2_with fail
        refine (CV.out _ KB2.out).mono ?_
        rintro e w3 ⟨rfl, hb3⟩
        have KB3 := Lib.hid (KB2.out.trans (hb3.mono KB2.out.size))
        have KM3 := Lib.hid (KM2.out.later hb3)
        have hcv := string_of w3 none 0 0 [] ⟨#[]⟩ (Sl.nil w3) (Lib.hid rfl)
        clear hb3 n0 n1 n2 n3
        go_wp2_with fail
        go_round
        case rel => exact ⟨i + 1, by go_num, by omega, KB3, KM3⟩
        case measure => simp [intOf]; omega
    · have j0 : decide ((i : Int) < (N : Int)) = false := decide_eq_false (by omega)
      go_wp2_with fail
      go_ret
      exact ⟨rfl, KB.out⟩
end Go.Proofs.Ytillckjohlbaiaa
