/- Contract of huff.Put. -/
import Derived.Test.YtgffcffmhhdceaaHrcodes
import Derived.Test.YtgffcffmhhdceaaHsame
namespace Go.Proofs.Ytgffcffmhhdceaa
open Go.RowKit

theorem zl_cell {w : World} {a : Option Addr} {len cap : Nat} {zs : List Int} (h : Zl w (.slice a len cap) zs) (k : Nat) (hk : k < zs.length) : ∃ b off, a = some ⟨b, off, none⟩ ∧ b < w.heap.size ∧ len = zs.length ∧ w.cell? ⟨b, off + k, none⟩ = some (.int .i64 (zs[k]?.getD 0)) := by
  obtain ⟨a', len', cap', e, h1, h2, h3, h4⟩ := h
  cases e
  obtain ⟨b, off, rfl, hb, hc⟩ := h4 (by omega)
  exact ⟨b, off, rfl, hb, h1, hc k (by omega)⟩

set_option maxHeartbeats 1000000 in
theorem hput_check (s : Value) (bs : List Nat) (N : Int) (s2 : Value) (zs : List Int) (sym : Int) (w : World) (hs : Sl w s bs) (hz : Zl w s2 zs) (hN : N ≤ 9223372036854775807) (hr : ¬ (0 ≤ N ∧ Bs.right bs N.toNat)) :
    Calls Try.prog 18 #[.agg #[s, .int .i64 N], s2, .int .i64 sym] w (NoRow w 2) := by
  have HS := Lib.hid hs
  have HR := Lib.hid hr
  obtain ⟨a2, len2, cap2, rfl, hl2⟩ := hz.shape
  clear hs hr hz hl2
  obtain ⟨a, len, cap, rfl, hl⟩ := HS.out.shape
  clear hl
  go_enter Try.func18, Try.ntmps18
  go_wp2_with fail
  refine (check_bad _ bs N _ (HS.out.later (below2 _ _ _)) hN HR.out).mono ?_
  rintro e w1 ⟨rfl, hb1⟩
  obtain ⟨k1, k2, kb, ks⟩ := facts2 hb1
  clear hb1
  obtain ⟨c0, c1, f0, f1⟩ := k2.two
  go_wp2
  exact bodyPost_ret (v := .tuple #[.agg #[.slice none 0 0, .int .i64 0], .int .i64 2]) (by simp [results, Try.results18, go_sem, c0, c1]) rfl ⟨rfl, set2_below kb _ (by omega) _ _⟩

set_option maxHeartbeats 1000000 in
theorem hput_sym (s : Value) (bs : List Nat) (N : Nat) (s2 : Value) (zs : List Int) (sym : Int) (w : World) (hs : Sl w s bs) (hz : Zl w s2 zs) (hN : N ≤ 9223372036854775807) (hr : Bs.right bs N) (hy : sym < 0 ∨ (zs.length : Int) ≤ sym) :
    Calls Try.prog 18 #[.agg #[s, .int .i64 (N : Int)], s2, .int .i64 sym] w (NoRow w 2) := by
  have HS := Lib.hid hs
  have HR := Lib.hid hr
  obtain ⟨a2, len2, cap2, rfl, hl2⟩ := hz.shape
  have hy2 : sym < 0 ∨ (len2 : Int) ≤ sym := by rw [hl2]; exact hy
  have HY := Lib.hid hy2
  clear hs hr hz hl2 hy hy2
  obtain ⟨a, len, cap, rfl, hl⟩ := HS.out.shape
  clear hl
  go_enter Try.func18, Try.ntmps18
  go_wp2_with fail
  refine (check_ok _ bs N _ (HS.out.later (below2 _ _ _)) hN HR.out).mono ?_
  rintro e w1 ⟨rfl, hb1⟩
  obtain ⟨k1, k2, kb, ks⟩ := facts2 hb1
  clear hb1
  obtain ⟨c0, c1, f0, f1⟩ := k2.two
  by_cases h1 : sym < 0
  · have d1 : decide (sym < 0) = true := by simpa using h1
    go_wp2
    exact bodyPost_ret (v := .tuple #[.agg #[.slice none 0 0, .int .i64 0], .int .i64 2]) (by simp [results, Try.results18, go_sem, c0, c1]) rfl ⟨rfl, set2_below kb _ (by omega) _ _⟩
  · have d1 : decide (sym < 0) = false := by simpa using h1
    have h2 : (len2 : Int) ≤ sym := HY.out.resolve_left h1
    have d2 : decide ((len2 : Int) ≤ sym) = true := by simpa using h2
    go_wp2
    exact bodyPost_ret (v := .tuple #[.agg #[.slice none 0 0, .int .i64 0], .int .i64 2]) (by simp [results, Try.results18, go_sem, c0, c1]) rfl ⟨rfl, set2_below kb _ (by omega) _ _⟩

set_option maxHeartbeats 1000000 in
theorem hput_codes (s : Value) (bs : List Nat) (N : Nat) (s2 : Value) (zs : List Int) (sym : Nat) (w : World) (hs : Sl w s bs) (hz : Zl w s2 zs) (hN : N ≤ 9223372036854775807) (hr : Bs.right bs N) (hy : sym < zs.length) (hf : ¬ Fit zs) :
    Calls Try.prog 18 #[.agg #[s, .int .i64 (N : Int)], s2, .int .i64 (sym : Int)] w (NoRow w (chk zs)) := by
  have HS := Lib.hid hs
  have HR := Lib.hid hr
  have HZ := Lib.hid hz
  have HF := Lib.hid hf
  obtain ⟨a2, len2, cap2, rfl, hl2⟩ := hz.shape
  have hy2 : sym < len2 := by omega
  have hne : chk zs ≠ 0 := fun h => hf (Or.inl h)
  have hc0 : (chk zs != 0) = true := by rw [bne_iff_ne]; exact hne
  have HC : ∀ w', Below w.heap.size w w' → Calls Try.prog 11 #[.slice a2 len2 cap2] w' (NoCodes w' (chk zs)) := fun w' h => codes_no zs _ w' (hz.later h) hf
  generalize chk zs = c at HC hc0 hne ⊢
  have HCC := Lib.hid HC
  clear hs hr hz hl2 hy hf HC hne
  obtain ⟨a, len, cap, rfl, hl⟩ := HS.out.shape
  clear hl
  go_enter Try.func18, Try.ntmps18
  go_wp2_with fail
  refine (check_ok _ bs N _ (HS.out.later (below2 _ _ _)) hN HR.out).mono ?_
  rintro e w1 ⟨rfl, hb1⟩
  obtain ⟨k1, k2, kb, ks⟩ := facts2 hb1
  clear hb1
  have KB := Lib.hid kb
  have d1 : decide ((sym : Int) < 0) = false := by simp
  have d2 : decide (len2 ≤ sym) = false := by simp; omega
  clear kb
  go_wp2_with fail
  refine (HCC.out _ KB.out).mono ?_
  rintro e w2 ⟨rfl, hb2⟩
  have k2' := k2.later hb2
  have KB2 := Lib.hid (KB.out.trans (hb2.mono (by omega)))
  clear hb2
  obtain ⟨c0, c1, f0, f1⟩ := k2'.two
  go_wp2
  exact bodyPost_ret (v := .tuple #[.agg #[.slice none 0 0, .int .i64 0], .int .i64 c]) (by simp [results, Try.results18, go_sem, c0, c1]) rfl ⟨rfl, set2_below KB2.out _ (by omega) _ _⟩
/-- The bits of a symbol's code, the highest one first. -/
def cw (ls : List Nat) (x : Nat) : List Bool := Bs.bitsOf (turned ((Hf.codes ls)[x]?.getD 0) (Hf.ln ls x)) (Hf.ln ls x)

theorem il_cell {lo : Nat} {w : World} {v : Value} {xs : List Nat} (h : Il lo w v xs) (h0 : 0 < xs.length) : ∃ g cap, v = .slice (some ⟨g, 0, none⟩) xs.length cap ∧ lo ≤ g ∧ Rw w g xs.length (fun i => xs[i]?.getD 0) := by
  rcases h with ⟨rfl, rfl⟩ | ⟨g, cap, e, _, hg, hr⟩
  · simp at h0
  · exact ⟨g, cap, e, hg, hr⟩

/-- A code of a used symbol fits its length. -/
theorem code_fits {zs : List Int} (hf : Fit zs) (x : Nat) (hx : x < zs.length) (h0 : zs[x]?.getD 0 ≠ 0) : (Hf.codes (nat zs))[x]?.getD 0 < 2 ^ Hf.ln (nat zs) x ∧ Hf.ln (nat zs) x ≤ 15 ∧ 0 < Hf.ln (nat zs) x := by
  have hv := hf.valid
  have hg := hv.get x hx
  have h15 := hv.le x (by rw [nat_length]; exact hx)
  have hpos : 0 < Hf.ln (nat zs) x := by show 0 < (nat zs)[x]?.getD 0; omega
  obtain ⟨k, hk, rfl⟩ := Hf.sy_of (nat zs) x (by rw [nat_length]; exact hx) hpos h15
  rw [Hf.codes_get _ _ hk]
  exact ⟨Hf.cd_lt _ _ hk hf.pf, h15, hpos⟩

set_option maxHeartbeats 2000000 in
theorem hput_zero (s : Value) (bs : List Nat) (N : Nat) (s2 : Value) (zs : List Int) (sym : Nat) (w : World) (hs : Sl w s bs) (hz : Zl w s2 zs) (hN : N ≤ 9223372036854775807) (hr : Bs.right bs N) (hy : sym < zs.length) (hf : Fit zs) (h0 : zs[sym]?.getD 0 = 0) :
    Calls Try.prog 18 #[.agg #[s, .int .i64 (N : Int)], s2, .int .i64 (sym : Int)] w (NoRow w 13) := by
  have HS := Lib.hid hs
  have HR := Lib.hid hr
  obtain ⟨a2, len2, cap2, rfl, hl2⟩ := hz.shape
  obtain ⟨b2, off2, rfl, hb2, hle2, hc2⟩ := zl_cell hz sym hy
  clear hle2
  rw [h0] at hc2
  have hy2 : sym < len2 := by omega
  have HCC : Hid (∀ w', Below w.heap.size w w' → Calls Try.prog 11 #[.slice (some ⟨b2, off2, none⟩) len2 cap2] w' (CodesPost w' (Hf.codes (nat zs)))) := fun w' h => codes_ok zs _ w' (hz.later h) hf
  generalize Hf.codes (nat zs) = cs at HCC
  have H2 := Lib.hid hc2
  clear hs hr hz hl2 hy hf h0 hc2
  obtain ⟨a, len, cap, rfl, hl⟩ := HS.out.shape
  clear hl
  go_enter Try.func18, Try.ntmps18
  go_wp2_with fail
  refine (check_ok _ bs N _ (HS.out.later (below2 _ _ _)) hN HR.out).mono ?_
  rintro e w1 ⟨rfl, hb1⟩
  obtain ⟨k1, k2, kb, ks⟩ := facts2 hb1
  clear hb1
  have KB := Lib.hid kb
  have d1 : decide ((sym : Int) < 0) = false := by simp
  have d2 : decide (len2 ≤ sym) = false := by simp; omega
  clear kb
  go_wp2_with fail
  refine (HCC.out _ KB.out).mono ?_
  rintro e w2 ⟨v, rfl, _, hb3⟩
  have k2' := k2.later hb3
  have KB2 := Lib.hid (KB.out.trans (hb3.mono (by omega)))
  clear hb3
  obtain ⟨c0, c1, f0, f1⟩ := k2'.two
  have cl : w2.cell? ⟨b2, off2 + sym, none⟩ = some (.int .i64 0) := by rw [KB2.out.cell (p := ⟨b2, off2 + sym, none⟩) hb2]; exact H2.out
  go_wp2
  exact bodyPost_ret (v := .tuple #[.agg #[.slice none 0 0, .int .i64 0], .int .i64 13]) (by simp [results, Try.results18, go_sem, c0, c1]) rfl ⟨rfl, set2_below KB2.out _ (by omega) _ _⟩

end Go.Proofs.Ytgffcffmhhdceaa
