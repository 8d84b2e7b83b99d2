/- Contract of valiselaw11.all. -/
import Derived.Test.YtdjgjijhokhahaaEly

namespace Go.Proofs.Ytdjgjijhokhahaa
set_option maxRecDepth 100000
open Go.RowKit

theorem Try.infoStr : (Try.prog.info? 9).map (fun i => (i.zero, i.size, i.bytes)) = some (some (.string ByteArray.empty), 1, 16) := by kernel_rfl

/-- The sectors' bytes as strings, the first k. -/
def strsTo (d : Ek.Dk) (k : Nat) : List ByteArray := (List.range k).map fun i => strB (Ek.now d i)
theorem strsTo_length (d : Ek.Dk) (k : Nat) : (strsTo d k).length = k := by simp [strsTo]
theorem strsTo_succ (d : Ek.Dk) (k : Nat) : strsTo d (k + 1) = strsTo d k ++ [strB (Ek.now d k)] := by simp [strsTo, List.range_succ]
theorem strsTo_get (d : Ek.Dk) (n i : Nat) (h : i < n) : (strsTo d n)[i]? = some (strB (Ek.now d i)) := by simp [strsTo, h]
def vstr (l : List ByteArray) : List Value := l.map Value.string
theorem vstr_length (l : List ByteArray) : (vstr l).length = l.length := by simp [vstr]
theorem vstr_one (l : List ByteArray) : ∀ v ∈ vstr l, v.oneCell' = true := by
  intro v hv
  simp only [vstr, List.mem_map] at hv
  obtain ⟨x, _, rfl⟩ := hv
  rfl
theorem append_str {w : World} {base : Nat} {v : Value} {l : List ByteArray} (h : w.ownsRow base 9 1 v l.length (vstr l)) (S : ByteArray) (hl : l.length ≤ 1000000) (g : Nat) (hg : Has w g (.cells #[.string S] 9 (0, 0))) (hb : base ≤ w.heap.size) :
    ∃ v' w', (Builtin.append_ #[27, 27] 27 #[v, .slice (some ⟨g, 0, none⟩) 1 1]).run Try.prog w = .ok v' w' ∧ w'.ownsRow base 9 1 v' (l ++ [S]).length (vstr (l ++ [S])) ∧ w.grownBy w' v.ownBlock := by
  obtain ⟨i0, hi, hz0, hz1, hz2⟩ := info_parts Try.infoStr
  obtain ⟨v', w', h1, h2, h3, _⟩ := run_append_own_at (P := Try.prog) (w := w) base 27 27 9 i0 _ 1 16 Try.underlying27 hi hz0 hz1 hz2 rfl (by decide) v l.length (vstr l) h ⟨g, 0, none⟩ 1 1 [.string S] rfl
    (fun j u hj => by
      obtain rfl : j = 0 := by have := (List.getElem?_eq_some_iff.1 hj).1; simpa using this
      rw [Addr.add_mid, hg.cell]; exact hj) (by simp [Value.oneCell']) (by unfold maxLen; omega) (by omega) hb
  refine ⟨v', w', h1, ?_, h3⟩
  rw [List.length_append, List.length_singleton, show vstr (l ++ [S]) = vstr l ++ [.string S] by simp [vstr]]
  exact h2
theorem own_strs {w : World} {base : Nat} {v : Value} {l : List ByteArray} (h : w.ownsRow base 9 1 v l.length (vstr l)) (hl : 0 < l.length) : ∃ g, Strs w v l g ∧ base ≤ g := by
  rcases h.2 with ⟨_, h0⟩ | ⟨g, cap, cur, rfl, hb, hg, hc1, hc2, hc3, hc4⟩
  · omega
  · refine ⟨g, ⟨cap, rfl, (Array.getElem?_eq_some_iff.1 hg).1, fun i hi => ?_⟩, hb⟩
    have hown : w.ownsRow base 9 1 (.slice (some ⟨g, 0, none⟩) l.length cap) l.length (vstr l) := ⟨h.1, Or.inr ⟨g, cap, cur, rfl, hb, hg, hc1, hc2, hc3, hc4⟩⟩
    rw [hown.cellAt i (by omega)]
    unfold vstr
    rw [List.getElem?_map, List.getElem?_eq_getElem hi]
    rfl

/-- What all leaves. -/
def AllPost (w : World) (d : Ek.Dk) (e : Ending) (w' : World) : Prop :=
  ∃ s g, e = .returned s ∧ Strs w' s (strsTo d d.n) g ∧ w.heap.size ≤ g ∧ Below w.heap.size w w'

set_option maxRecDepth 100000 in
set_option maxHeartbeats 4000000 in
theorem all_any {w0 w : World} {b : Nat} {d : Ek.Dk} {N : Nat} (h : Lv w0 w b d N) (hd : d.dark = false) : Calls Try.prog 18 #[.pointer (some ⟨b, 0, none⟩)] w (AllPost w d) := by
  have H := Lib.hid h
  have hlo := h.ok.lo
  have hhi := h.ok.hi
  have HR : Hid (∀ i : Nat, Row (Ek.now d i)) := Ek.now_row h.ok
  have HE : Hid (∀ i : Nat, i < d.n → Ek.readE d (i : Int) = 0) := fun i hi => by unfold Ek.readE; rw [if_neg (by omega), hd]; rfl
  have HW : Hid (Below w.heap.size w w) := Below.refl _ _
  have HO : Hid (w.ownsRow w.heap.size 9 1 (.slice none 0 0) (strsTo d 0).length (vstr (strsTo d 0))) := ⟨rfl, Or.inl ⟨rfl, rfl⟩⟩
  obtain ⟨n, hn⟩ : ∃ n, n = d.n := ⟨_, rfl⟩
  rw [← hn] at hlo hhi
  have HN := Lib.hid hn
  clear h hd hn
  go_enter Try.func18, Try.ntmps18
  go_wp2_with fail
  go_loopw [3, 4] (fun s3 s4 wr => ∃ k : Nat, s4 = .int .i64 (k : Int) ∧ k ≤ n ∧ Hid (wr.ownsRow w.heap.size 9 1 s3 (strsTo d k).length (vstr (strsTo d k))) ∧ Hid (Below w.heap.size w wr)) (fun _ s4 _ => n - (intOf s4).toNat)
  case atStart => exact ⟨0, by go_num, Nat.zero_le _, HO, HW⟩
  case round =>
    obtain ⟨k, rfl, hk, KO, KB⟩ := hrel
    have HL := Lib.hid (H.out.later KB.out)
    obtain ⟨oa, oc, rfl, _⟩ := own_len KO.out
    rw [strsTo_length] at KO ⊢
    have CL := lv_len HL.out
    rw [← HN.out] at CL
    by_cases hlt : k < n
    · have j0 : decide ((k : Int) < (n : Int)) = true := decide_eq_true (by omega)
      have CR := Lib.hid (lv_read HL.out (k : Int))
      have hE := HE.out k (by rw [← HN.out]; exact hlt)
      have HE2 := Lib.hid hE
      clear hE
      go_wp2_with fail
      refine CL.mono ?_
      clear CL
      rintro e w' ⟨rfl, rfl⟩
      go_wp2_with fail
      refine CR.out.mono ?_
      clear CR
      rintro e w2 ⟨hb2, hr⟩
      rcases hr with ⟨hr, _⟩ | ⟨_, g, rfl, hg0, hg⟩
      · exact absurd HE2.out hr
      obtain ⟨S, hS⟩ : ∃ S, S = strB (Ek.now d k) := ⟨_, rfl⟩
      have hrow := HR.out k
      have hc := string_of w2 (some ⟨g, 0, none⟩) 512 512 _ S (has_sl hg hrow.2 (by rw [show (Ek.now d ((k : Int)).toNat).length = 512 from hrow.1]; decide) 512 512 hrow.1.symm) hS
      have hb3 : Below w.heap.size w (w2.alloc (.cells #[.string S] 9)) := (KB.out.trans (hb2.mono KB.out.size)).trans ((below1 w2 _).mono (Nat.le_trans KB.out.size hb2.size))
      have hx := Has.new w2 (.cells #[.string S] 9)
      have ho2 := own_same KO.out (w' := w2.alloc (.cells #[.string S] 9)) (fun q hq => (Below.heap_alloc w2 _ q (Nat.lt_of_lt_of_le (KO.out.lt q hq).2 hb2.size)).trans (hb2.block q (KO.out.lt q hq).2))
      obtain ⟨v', w4, hrun, ho4, hg4⟩ := append_str (l := strsTo d k) (by rw [strsTo_length]; exact ho2) S (by rw [strsTo_length]; omega) w2.heap.size hx hb3.size
      have KO4 : Hid (w4.ownsRow w.heap.size 9 1 v' (strsTo d (k + 1)).length (vstr (strsTo d (k + 1)))) := by show World.ownsRow _ _ _ _ _ _ _; rw [strsTo_succ, ← hS]; exact ho4
      have KB4 : Hid (Below w.heap.size w w4) := hb3.grown hg4 hb3.size (fun q e => (ho2.lt q e).1)
      obtain ⟨va, vc, rfl, _⟩ := own_len ho4
      have hlen : (strsTo d k ++ [S]).length = k + 1 := by rw [List.length_append, strsTo_length]; rfl
      rw [hlen] at hrun KO4
      have HRUN := Lib.hid hrun
      clear hb2 hg0 hg hS hrow hb3 hx ho2 hrun ho4 hg4 hlen
      go_wp2_with (refine wpList_run rfl (exec_append (.tmp 19) (.tmp 22) 27 rfl _ _ _ rfl rfl HRUN.out) ?_)
      go_round
      case rel => exact ⟨k + 1, by go_num, by omega, KO4, KB4⟩
      case measure => simp [intOf]; omega
    · obtain rfl : k = n := by omega
      have j0 : decide ((k : Int) < (k : Int)) = false := decide_eq_false (by omega)
      have HS : Hid (∃ g, Strs wr (.slice oa k oc) (strsTo d d.n) g ∧ w.heap.size ≤ g) := by
        have h1 := own_strs (l := strsTo d k) (by rw [strsTo_length]; exact KO.out) (by rw [strsTo_length]; omega)
        rw [← HN.out]; exact h1
      go_wp2_with fail
      refine CL.mono ?_
      clear CL
      rintro e w' ⟨rfl, rfl⟩
      go_wp2_with fail
      go_ret
      obtain ⟨g, h1, h2⟩ := HS.out
      exact ⟨_, g, rfl, h1, h2, KB.out⟩
end Go.Proofs.Ytdjgjijhokhahaa
