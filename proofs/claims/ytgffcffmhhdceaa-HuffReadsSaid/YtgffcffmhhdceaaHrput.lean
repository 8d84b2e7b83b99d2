/- Contracts of the document's Put of codes: where it refuses. -/
import Derived.Test.YtgffcffmhhdceaaHput2
import Derived.Test.YtgffcffmhhdceaaHrow
namespace Go.Proofs.Ytgffcffmhhdceaa
open Go.RowKit

set_option maxHeartbeats 1000000 in
theorem rhput_check (s : Value) (bs : List Nat) (N : Int) (s2 : Value) (zs : List Int) (sym : Int) (w : World) (hs : Sl w s bs) (hz : Zl w s2 zs) (hN : N ≤ 9223372036854775807) (hr : ¬ (0 ≤ N ∧ Bs.right bs N.toNat)) :
    Calls Try.prog 19 #[.agg #[s, .int .i64 N], s2, .int .i64 sym] w (NoRow w 2) := by
  have HS := Lib.hid hs
  have HR := Lib.hid hr
  obtain ⟨a2, len2, cap2, rfl, hl2⟩ := hz.shape
  clear hs hr hz hl2
  obtain ⟨a, len, cap, rfl, hl⟩ := HS.out.shape
  clear hl
  go_enter Try.func19, Try.ntmps19
  go_wp2_with fail
  refine (rright_bad _ bs N _ (HS.out.later (below2 _ _ _)) hN HR.out).mono ?_
  rintro e w1 ⟨rfl, hb1⟩
  obtain ⟨k1, k2, kb, ks⟩ := facts2 hb1
  clear hb1
  obtain ⟨c0, c1, f0, f1⟩ := k2.two
  go_wp2
  exact bodyPost_ret (v := .tuple #[.agg #[.slice none 0 0, .int .i64 0], .int .i64 2]) (by simp [results, Try.results19, go_sem, c0, c1]) rfl ⟨rfl, set2_below kb _ (by omega) _ _⟩

set_option maxHeartbeats 1000000 in
theorem rhput_sym (s : Value) (bs : List Nat) (N : Nat) (s2 : Value) (zs : List Int) (sym : Int) (w : World) (hs : Sl w s bs) (hz : Zl w s2 zs) (hN : N ≤ 9223372036854775807) (hr : Bs.right bs N) (hv : Valid zs) (hy : sym < 0 ∨ (zs.length : Int) ≤ sym) :
    Calls Try.prog 19 #[.agg #[s, .int .i64 (N : Int)], s2, .int .i64 sym] w (NoRow w 2) := by
  have HS := Lib.hid hs
  have HR := Lib.hid hr
  obtain ⟨a2, len2, cap2, rfl, hl2⟩ := hz.shape
  have hy2 : sym < 0 ∨ (len2 : Int) ≤ sym := by rw [hl2]; exact hy
  have HY := Lib.hid hy2
  have HLN : Hid (∀ w', Below w.heap.size w w' → Calls Try.prog 29 #[.slice a2 len2 cap2] w' fun e w'' => e = .returned (.bool true) ∧ w' = w'') := fun w' h => by
    have h2 := rare_any zs _ w' (hz.later h)
    rw [decide_eq_true hv] at h2
    exact h2
  clear hs hr hz hl2 hy hy2 hv
  obtain ⟨a, len, cap, rfl, hl⟩ := HS.out.shape
  clear hl
  go_enter Try.func19, Try.ntmps19
  go_wp2_with fail
  refine (rright_ok _ bs N _ (HS.out.later (below2 _ _ _)) hN HR.out).mono ?_
  rintro e w1 ⟨rfl, hb1⟩
  obtain ⟨k1, k2, kb, ks⟩ := facts2 hb1
  clear hb1
  obtain ⟨c0, c1, f0, f1⟩ := k2.two
  by_cases h1 : sym < 0
  · have d1 : decide (sym < 0) = true := by simpa using h1
    go_wp2_with (go_at_call 29; refine (HLN.out _ kb).mono ?_; rintro e w2 ⟨rfl, rfl⟩)
    exact bodyPost_ret (v := .tuple #[.agg #[.slice none 0 0, .int .i64 0], .int .i64 2]) (by simp [results, Try.results19, go_sem, c0, c1]) rfl ⟨rfl, set2_below kb _ (by omega) _ _⟩
  · have d1 : decide (sym < 0) = false := by simpa using h1
    have h2 : (len2 : Int) ≤ sym := HY.out.resolve_left h1
    have d2 : decide ((len2 : Int) ≤ sym) = true := by simpa using h2
    go_wp2_with (go_at_call 29; refine (HLN.out _ kb).mono ?_; rintro e w2 ⟨rfl, rfl⟩)
    exact bodyPost_ret (v := .tuple #[.agg #[.slice none 0 0, .int .i64 0], .int .i64 2]) (by simp [results, Try.results19, go_sem, c0, c1]) rfl ⟨rfl, set2_below kb _ (by omega) _ _⟩

set_option maxHeartbeats 1000000 in
theorem rhput_len (s : Value) (bs : List Nat) (N : Nat) (s2 : Value) (zs : List Int) (sym : Int) (w : World) (hs : Sl w s bs) (hz : Zl w s2 zs) (hN : N ≤ 9223372036854775807) (hr : Bs.right bs N) (hv : ¬ Valid zs) :
    Calls Try.prog 19 #[.agg #[s, .int .i64 (N : Int)], s2, .int .i64 sym] w (NoRow w 2) := by
  have HS := Lib.hid hs
  have HR := Lib.hid hr
  obtain ⟨a2, len2, cap2, rfl, hl2⟩ := hz.shape
  have HLN : Hid (∀ w', Below w.heap.size w w' → Calls Try.prog 29 #[.slice a2 len2 cap2] w' fun e w'' => e = .returned (.bool false) ∧ w' = w'') := fun w' h => by
    have h2 := rare_any zs _ w' (hz.later h)
    rw [decide_eq_false hv] at h2
    exact h2
  clear hs hr hz hl2 hv
  obtain ⟨a, len, cap, rfl, hl⟩ := HS.out.shape
  clear hl
  go_enter Try.func19, Try.ntmps19
  go_wp2_with fail
  refine (rright_ok _ bs N _ (HS.out.later (below2 _ _ _)) hN HR.out).mono ?_
  rintro e w1 ⟨rfl, hb1⟩
  obtain ⟨k1, k2, kb, ks⟩ := facts2 hb1
  clear hb1
  obtain ⟨c0, c1, f0, f1⟩ := k2.two
  go_wp2_with (go_at_call 29; refine (HLN.out _ kb).mono ?_; rintro e w2 ⟨rfl, rfl⟩)
  exact bodyPost_ret (v := .tuple #[.agg #[.slice none 0 0, .int .i64 0], .int .i64 2]) (by simp [results, Try.results19, go_sem, c0, c1]) rfl ⟨rfl, set2_below kb _ (by omega) _ _⟩

set_option maxHeartbeats 1000000 in
theorem rhput_codes (s : Value) (bs : List Nat) (N : Nat) (s2 : Value) (zs : List Int) (sym : Nat) (w : World) (hs : Sl w s bs) (hz : Zl w s2 zs) (hN : N ≤ 9223372036854775807) (hr : Bs.right bs N) (hv : Valid zs) (hy : sym < zs.length) (hf : ¬ Fit zs) :
    Calls Try.prog 19 #[.agg #[s, .int .i64 (N : Int)], s2, .int .i64 (sym : Int)] w (NoRow w (chk zs)) := by
  have HS := Lib.hid hs
  have HR := Lib.hid hr
  have HZ := Lib.hid hz
  have HF := Lib.hid hf
  obtain ⟨a2, len2, cap2, rfl, hl2⟩ := hz.shape
  have hy2 : sym < len2 := by omega
  have HLN : Hid (∀ w', Below w.heap.size w w' → Calls Try.prog 29 #[.slice a2 len2 cap2] w' fun e w'' => e = .returned (.bool true) ∧ w' = w'') := fun w' h => by
    have h2 := rare_any zs _ w' (hz.later h)
    rw [decide_eq_true hv] at h2
    exact h2
  have hne : chk zs ≠ 0 := fun h => hf (Or.inl h)
  have hc0 : (chk zs != 0) = true := by rw [bne_iff_ne]; exact hne
  have HC : ∀ w', Below w.heap.size w w' → Calls Try.prog 12 #[.slice a2 len2 cap2] w' (NoCodes w' (chk zs)) := fun w' h => rcodes_no zs _ w' (hz.later h) hf
  generalize chk zs = c at HC hc0 hne ⊢
  have HCC := Lib.hid HC
  clear hs hr hz hl2 hy hf HC hne hv
  obtain ⟨a, len, cap, rfl, hl⟩ := HS.out.shape
  clear hl
  go_enter Try.func19, Try.ntmps19
  go_wp2_with fail
  refine (rright_ok _ bs N _ (HS.out.later (below2 _ _ _)) hN HR.out).mono ?_
  rintro e w1 ⟨rfl, hb1⟩
  obtain ⟨k1, k2, kb, ks⟩ := facts2 hb1
  clear hb1
  have KB := Lib.hid kb
  have d1 : decide ((sym : Int) < 0) = false := by simp
  have d2 : decide (len2 ≤ sym) = false := by simp; omega
  clear kb
  go_wp2_with (go_at_call 29; refine (HLN.out _ KB.out).mono ?_; rintro e w2 ⟨rfl, rfl⟩)
  refine (HCC.out _ KB.out).mono ?_
  rintro e w2 ⟨rfl, hb2⟩
  have k2' := k2.later hb2
  have KB2 := Lib.hid (KB.out.trans (hb2.mono (by omega)))
  clear hb2
  obtain ⟨c0, c1, f0, f1⟩ := k2'.two
  go_wp2
  exact bodyPost_ret (v := .tuple #[.agg #[.slice none 0 0, .int .i64 0], .int .i64 c]) (by simp [results, Try.results19, go_sem, c0, c1]) rfl ⟨rfl, set2_below KB2.out _ (by omega) _ _⟩

set_option maxHeartbeats 2000000 in
theorem rhput_zero (s : Value) (bs : List Nat) (N : Nat) (s2 : Value) (zs : List Int) (sym : Nat) (w : World) (hs : Sl w s bs) (hz : Zl w s2 zs) (hN : N ≤ 9223372036854775807) (hr : Bs.right bs N) (hy : sym < zs.length) (hf : Fit zs) (h0 : zs[sym]?.getD 0 = 0) :
    Calls Try.prog 19 #[.agg #[s, .int .i64 (N : Int)], s2, .int .i64 (sym : Int)] w (NoRow w 13) := by
  have HS := Lib.hid hs
  have HR := Lib.hid hr
  obtain ⟨a2, len2, cap2, rfl, hl2⟩ := hz.shape
  obtain ⟨b2, off2, rfl, hb2, hle2, hc2⟩ := zl_cell hz sym hy
  clear hle2
  rw [h0] at hc2
  have hy2 : sym < len2 := by omega
  have HLN : Hid (∀ w', Below w.heap.size w w' → Calls Try.prog 29 #[.slice (some ⟨b2, off2, none⟩) len2 cap2] w' fun e w'' => e = .returned (.bool true) ∧ w' = w'') := fun w' h => by
    have h2 := rare_any zs _ w' (hz.later h)
    rw [decide_eq_true hf.valid] at h2
    exact h2
  have HCC : Hid (∀ w', Below w.heap.size w w' → Calls Try.prog 12 #[.slice (some ⟨b2, off2, none⟩) len2 cap2] w' (CodesPost w' (Hf.codes (nat zs)))) := fun w' h => rcodes_ok zs _ w' (hz.later h) hf
  generalize Hf.codes (nat zs) = cs at HCC
  have H2 := Lib.hid hc2
  clear hs hr hz hl2 hy hf h0 hc2
  obtain ⟨a, len, cap, rfl, hl⟩ := HS.out.shape
  clear hl
  go_enter Try.func19, Try.ntmps19
  go_wp2_with fail
  refine (rright_ok _ bs N _ (HS.out.later (below2 _ _ _)) hN HR.out).mono ?_
  rintro e w1 ⟨rfl, hb1⟩
  obtain ⟨k1, k2, kb, ks⟩ := facts2 hb1
  clear hb1
  have KB := Lib.hid kb
  have d1 : decide ((sym : Int) < 0) = false := by simp
  have d2 : decide (len2 ≤ sym) = false := by simp; omega
  clear kb
  go_wp2_with (go_at_call 29; refine (HLN.out _ KB.out).mono ?_; rintro e w2 ⟨rfl, rfl⟩)
  refine (HCC.out _ KB.out).mono ?_
  rintro e w2 ⟨v, rfl, _, hb3⟩
  have k2' := k2.later hb3
  have KB2 := Lib.hid (KB.out.trans (hb3.mono (by omega)))
  clear hb3
  obtain ⟨c0, c1, f0, f1⟩ := k2'.two
  have cl : w2.cell? ⟨b2, off2 + sym, none⟩ = some (.int .i64 0) := by rw [KB2.out.cell (p := ⟨b2, off2 + sym, none⟩) hb2]; exact H2.out
  go_wp2
  exact bodyPost_ret (v := .tuple #[.agg #[.slice none 0 0, .int .i64 0], .int .i64 13]) (by simp [results, Try.results19, go_sem, c0, c1]) rfl ⟨rfl, set2_below KB2.out _ (by omega) _ _⟩

end Go.Proofs.Ytgffcffmhhdceaa
