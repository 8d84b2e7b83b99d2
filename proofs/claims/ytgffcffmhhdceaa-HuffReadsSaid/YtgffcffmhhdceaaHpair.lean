/- Both answers on a code that is put behind a row. -/
import Derived.Test.YtgffcffmhhdceaaHrput2
namespace Go.Proofs.Ytgffcffmhhdceaa
open Go.RowKit

/-- The bits of a row that is right. -/
theorem right_bits {bs : List Nat} {n : Int} (h : 0 ≤ n ∧ Bs.right bs n.toNat) (h8 : ∀ x ∈ bs, x < 256) : ∃ l : List Bool, Bs.pack l = bs ∧ n = (l.length : Int) := by
  refine ⟨Bs.bitsFrom bs n.toNat, Bs.pack_bitsFrom bs _ h.2 h8, ?_⟩
  rw [Bs.bitsFrom_length]
  omega

theorem right_room {bs : List Nat} {n : Int} (h : 0 ≤ n ∧ Bs.right bs n.toNat) : n ≤ 8 * bs.length := by
  have := h.2.1
  omega

theorem Sl.facts {w : World} {s : Value} {bs : List Nat} (h : Sl w s bs) : (∀ x ∈ bs, x < 256) ∧ bs.length ≤ 281474976710656 := by
  obtain ⟨a, len, cap, _, h1, h2, _, h4, _⟩ := h
  exact ⟨h4, by omega⟩

/-- A row and an error are answered. -/
def Rows0 (w : World) (bs : List Nat) (n c : Int) (e : Ending) (w' : World) : Prop :=
  ∃ a m cap, e = .returned (.tuple #[.agg #[.slice a m cap, .int .i64 n], .int .i64 c]) ∧ Sl w' (.slice a m cap) bs ∧ Below w.heap.size w w'

theorem NoRow.rows0 {w : World} {c : Int} {e : Ending} {w' : World} (h : NoRow w c e w') : Rows0 w [] 0 c e w' :=
  ⟨none, 0, 0, h.1, Sl.nil _, h.2⟩
theorem RowPost.rows0 {w : World} {l : List Bool} {e : Ending} {w' : World} (h : RowPost w l e w') (hl : l.length ≤ 2251799813685248) : Rows0 w (Bs.pack l) l.length 0 e w' := by
  obtain ⟨g, m, he, hm, hg, hh, hb⟩ := h
  exact ⟨some ⟨g, 0, none⟩, m, m, he, Sl.has hh (Bs.pack_lt _) (by rw [Bs.pack_length]; omega) m m (by rw [Bs.pack_length]; exact hm), hb⟩
theorem RowOwn.rows0 {w : World} {l : List Bool} {e : Ending} {w' : World} (h : RowOwn w l e w') (hl : l.length ≤ 2251799813685248) : Rows0 w (Bs.pack l) l.length 0 e w' := by
  obtain ⟨a, n, cap, he, hr, hb⟩ := h
  exact ⟨a, n, cap, he, hr.sl hl, hb⟩

theorem cw_length (ls : List Nat) (x : Nat) : (cw ls x).length = Hf.ln ls x := by unfold cw; exact Bs.bitsOf_length _ _

/-- Put's two answers. -/
theorem hput_pair (bs : List Nat) (n : Int) (zs : List Int) (y : Int) (h8 : ∀ x ∈ bs, x < 256) (hl : bs.length ≤ 140737488351232) (hn : n ≤ 9223372036854775807) :
    ∃ (bs' : List Nat) (n' c : Int), Hid (∀ (s s2 : Value) (w : World), Sl w s bs → Zl w s2 zs → Calls Try.prog 18 #[.agg #[s, .int .i64 n], s2, .int .i64 y] w (Rows0 w bs' n' c)) ∧
      Hid (∀ (s s2 : Value) (w : World), Sl w s bs → Zl w s2 zs → Calls Try.prog 19 #[.agg #[s, .int .i64 n], s2, .int .i64 y] w (Rows0 w bs' n' c)) := by
  by_cases hr : 0 ≤ n ∧ Bs.right bs n.toNat
  · have hroom := right_room hr
    obtain ⟨l, hp, hnl⟩ := right_bits hr h8
    have hR : Bs.right bs l.length := by rw [← hp]; exact Bs.pack_right l
    subst hnl
    by_cases hv : Valid zs
    · by_cases hy : y < 0 ∨ (zs.length : Int) ≤ y
      · exact ⟨[], 0, 2, fun s s2 w hs hz => (hput_sym s bs l.length s2 zs y w hs hz (by omega) hR hy).mono fun e w' h => h.rows0, fun s s2 w hs hz => (rhput_sym s bs l.length s2 zs y w hs hz (by omega) hR hv hy).mono fun e w' h => h.rows0⟩
      · obtain ⟨x, rfl⟩ := Int.eq_ofNat_of_zero_le (show 0 ≤ y by omega)
        have hx : x < zs.length := by omega
        by_cases hf : Fit zs
        · by_cases h0 : zs[x]?.getD 0 = 0
          · exact ⟨[], 0, 13, fun s s2 w hs hz => (hput_zero s bs l.length s2 zs x w hs hz (by omega) hR hx hf h0).mono fun e w' h => h.rows0, fun s s2 w hs hz => (rhput_zero s bs l.length s2 zs x w hs hz (by omega) hR hx hf h0).mono fun e w' h => h.rows0⟩
          · have h15 := (code_fits hf x hx h0).2.1
            have hlen : (l ++ cw (nat zs) x).length ≤ 2251799813685248 := by rw [List.length_append, cw_length]; omega
            refine ⟨Bs.pack (l ++ cw (nat zs) x), ((l ++ cw (nat zs) x).length : Int), 0, fun s s2 w hs hz => ?_, fun s s2 w hs hz => ?_⟩
            · exact (hput_ok s l l.length s2 zs x w (hp ▸ hs) hz rfl (by omega) hx hf h0).mono fun e w' h => h.rows0 hlen
            · exact (rhput_ok s l l.length s2 zs x w (hp ▸ hs) hz rfl (by omega) hx hf h0).mono fun e w' h => h.rows0 hlen
        · exact ⟨[], 0, chk zs, fun s s2 w hs hz => (hput_codes s bs l.length s2 zs x w hs hz (by omega) hR hx hf).mono fun e w' h => h.rows0, fun s s2 w hs hz => (rhput_codes s bs l.length s2 zs x w hs hz (by omega) hR hv hx hf).mono fun e w' h => h.rows0⟩
    · have e2 : chk zs = 2 := if_neg hv
      refine ⟨[], 0, 2, fun s s2 w hs hz => ?_, fun s s2 w hs hz => (rhput_len s bs l.length s2 zs y w hs hz (by omega) hR hv).mono fun e w' h => h.rows0⟩
      by_cases hy : y < 0 ∨ (zs.length : Int) ≤ y
      · exact (hput_sym s bs l.length s2 zs y w hs hz (by omega) hR hy).mono fun e w' h => h.rows0
      · obtain ⟨x, rfl⟩ := Int.eq_ofNat_of_zero_le (show 0 ≤ y by omega)
        have := hput_codes s bs l.length s2 zs x w hs hz (by omega) hR (by omega) (fun h => hv h.valid)
        rw [e2] at this
        exact this.mono fun e w' h => h.rows0
  · exact ⟨[], 0, 2, fun s s2 w hs hz => (hput_check s bs n s2 zs y w hs hz hn hr).mono fun e w' h => h.rows0, fun s s2 w hs hz => (rhput_check s bs n s2 zs y w hs hz hn hr).mono fun e w' h => h.rows0⟩
end Go.Proofs.Ytgffcffmhhdceaa
