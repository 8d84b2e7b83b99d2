/- Contracts of bits.Of, Align and Join. -/
import Derived.Test.YtcehdngdkfoioaaPairs
import Derived.Deep.RegionHeld3
namespace Go.Proofs.Ytcehdngdkfoioaa
open Go.RowKit

set_option maxHeartbeats 1000000 in
theorem ext_nil (l : List Bool) (f : Nat → Bool) (a : Option Addr) (len cap N k m : Nat) (w : World)
    (hs : Sl w (.slice a len cap) (Bs.pack l)) (hl : Hid (N = l.length)) (hN : N ≤ 1125899906842624) (hk : k ≤ 1125899906842624) (hm : Hid ((N + k + 7) / 8 = m)) (hk0 : k ≤ 0) :
    Calls Try.prog 30 #[.agg #[.slice a len cap, .int .i64 N], .int .i64 k, .nilFunc] w (ExtPost w l f k m) := by
  have hmk := run_make_row' (P := Try.prog) 22 5 (.int .u8 0) 1 Try.underlying22 Try.infoU8 rfl .i64 .i64 m (by have := hm.out; omega) (by have := hm.out; omega)
  have hsz : Hid ((((N : Int) + (k : Int)) / 8 + (((N : Int) + (k : Int)) % 8 + 7) / 8) = (m : Int)) := by
    show _ = _
    rw [← hm.out]; omega
  have hA : 0 ≤ (N : Int) + (k : Int) := by omega
  have hB : (N : Int) + (k : Int) ≤ 9223372036854775807 := by omega
  have hs' := Lib.hid hs
  clear hs
  go_enter Try.func30, Try.ntmps30
  go_upto_region 1 with fail
  go_cut [7] (fun s7 wx => Laid ((w.alloc (.cells #[.slice a len cap, .int .i64 N] 24)).alloc (.cells #[.slice none 0 0, .int .i64 0] 24)) wx s7 m N)
  case first =>
    have hwr : IntKind.i64.wrap ((N : Int) + (k : Int)) = (N : Int) + (k : Int) := IntWalk.i64_in _ (by omega)
    clear hs' hl
    go_region_held3 (fun wx => wx.cell? ⟨w.heap.size, 1, none⟩ = some (.int .i64 (N : Int))) (go_keep) (first | (go_at_call 36; go_fit (size_is ((N : Int) + (k : Int)) (m : Int) hA hB hsz _); rintro e w' ⟨rfl, rfl⟩))
    all_goals (go_wp2_with fail; go_meet; first | exact Laid.one _ m N (w.heap.size + 1 + 1) (by simp) | exact Laid.two _ m N (w.heap.size + 1 + 1) (by simp))
  case rest =>
    clear hmk hsz hA hB
    obtain ⟨R, g, rfl, hRB, hgB, hne, hsz2, hR, hg, hbox, hres, hb1⟩ := hcut.facts
    clear hcut
    have c0 := cell_of_block hbox 0
    have c1 := cell_of_block hR 0
    simp only [List.getElem?_toArray, List.getElem?_cons_zero] at c0 c1
    have hs2 : Sl wc (.slice a len cap) (Bs.pack l) := hs'.out.later hb1
    have hlen : len = (N + 7) / 8 := by rw [hs2.len.1, Bs.pack_length, hl.out]
    have hmN : (N + 7) / 8 ≤ m := by have := hm.out; omega
    have hn : (vb (Bs.pack l)).length = Nat.min len m := by
      rw [vb_length, Bs.pack_length, ← hl.out]
      show _ = min len m
      omega
    have hpos : 0 < (vb (Bs.pack l)).length → some (⟨g, 0, none⟩ : Addr) = some ⟨g, 0, none⟩ ∧ ∃ ad, a = some ad ∧ ∀ j v, (vb (Bs.pack l))[j]? = some v → wc.cell? (ad.add j) = some v := fun h =>
      ⟨rfl, hs2.cells (by rw [vb_length, Bs.pack_length, ← hl.out] at h; omega)⟩
    have hfit : 0 + (vb (Bs.pack l)).length ≤ (vb (Bs.packTo m [])).length := by
      rw [vb_length, vb_length, Bs.pack_length, Bs.packTo_length, ← hl.out]; omega
    have H1 := Lib.hid hg
    have H2 := Lib.hid hR
    have H3 := Lib.hid hbox
    have H4 := Lib.hid hn
    have H5 := Lib.hid hpos
    have H6 := Lib.hid hfit
    have H7 := Lib.hid hlen
    have H8 := Lib.hid hs2
    have H9 := Lib.hid hres
    have H10 := Lib.hid hb1
    clear hg hR hbox hn hpos hfit hlen hs2 hres hb1
    go_wp2_with (with_reducible refine wpList_copy_only rfl (.tmp 20) (.tmp 22) 22 22 rfl 5 Try.underlying22 (by kernel_rfl) (some ⟨g, 0, none⟩) a m m len cap rfl rfl g 0 (vb (Bs.packTo m [])) 5 H1.out (vb (Bs.pack l)) H4.out H5.out H6.out (oneCell_vb _) ?_; intro w2 hg2 ho2)
    have HR2 : Hid (w2.heap[R]? = some (rowObj g m (more l f 0).length)) := by
      show _ = _
      rw [ho2.block R (lt_of_block H2.out) hne, more_zero, ← hl.out]; exact H2.out
    have HG2 : Hid (w2.heap[g]? = some (bytesObj (Bs.packTo m (more l f 0)))) := by
      show _ = _
      rw [more_zero]
      have e := splice_zero m l (by rw [← hl.out]; exact hmN)
      have h := hg2.out
      rw [e] at h
      exact h
    have HB2 : Hid (Below w.heap.size w w2) := ho2.below H10.out (by omega) (by omega)
    have HE2 : Hid (w2.heap[w.heap.size + 1]? = some (.cells #[.slice none 0 0, .int .i64 0] 24 (0, 0))) := by
      show _ = _
      rw [ho2.block _ (by omega) (by omega)]; exact H9.out
    clear hg2 ho2 H1 H2 H3 H4 H5 H6 H7 H8 H9 H10 c0 c1
    go_loopw [26] (fun s26 wr => ∃ i : Nat, i ≤ k ∧ s26 = .int .i64 i ∧ Hid (wr.heap[R]? = some (rowObj g m (more l f i).length)) ∧ Hid (wr.heap[g]? = some (bytesObj (Bs.packTo m (more l f i)))) ∧ Hid (Below (w.heap.size + 2) w2 wr))
      (fun s _ => k - (intOf s).toNat)
    case atStart => exact ⟨0, Nat.zero_le _, rfl, HR2, HG2, Below.refl _ _⟩
    case round =>
      obtain ⟨i, hi, rfl, KR, KG, KB⟩ := hrel
      by_cases hlt : i < k
      · omega
      · obtain rfl : i = k := by omega
        have c0 : wr.cell? ⟨R, 0, none⟩ = some (.slice (some ⟨g, 0, none⟩) m m) := by rw [cell_of_block KR.out]; rfl
        have c1 : wr.cell? ⟨R, 1, none⟩ = some (.int .i64 ((more l f i).length : Int)) := by rw [cell_of_block KR.out]; rfl
        have KE : wr.heap[w.heap.size + 1]? = some (.cells #[.slice none 0 0, .int .i64 0] 24 (0, 0)) := (KB.out.block _ (by omega)).trans HE2.out
        have f0 := free_of_block KE 0
        have f1 := free_of_block KE 1
        have e0 : wr.cell? ⟨w.heap.size + 1, 0, none⟩ = some (.slice none 0 0) := by rw [cell_of_block KE]; rfl
        have e1 : wr.cell? ⟨w.heap.size + 1, 1, none⟩ = some (.int .i64 0) := by rw [cell_of_block KE]; rfl
        have KE' := Lib.hid KE
        clear KE
        go_wp2
        refine bodyPost_ret (v := .agg #[.slice (some ⟨g, 0, none⟩) m m, .int .i64 ((more l f i).length : Int)]) (by simp [results, Try.results30, go_sem, e0, e1]) rfl ⟨g, rfl, by omega, ?_, ?_⟩
        · rw [Below.heap_setCell _ _ _ _ (by show g ≠ w.heap.size + 1; omega), Below.heap_setCell _ _ _ _ (by show g ≠ w.heap.size + 1; omega)]
          exact KG.out
        · exact ((HB2.out.trans (KB.out.mono (by omega))).setCell (by show w.heap.size ≤ w.heap.size + 1; omega) _).setCell (by show w.heap.size ≤ w.heap.size + 1; omega) _

theorem ext_nil_is (l : List Bool) (q : Int) (a : Option Addr) (len cap N : Nat) (w : World) (hs : Sl w (.slice a len cap) (Bs.pack l)) (hl : Hid (N = l.length)) (hN : N ≤ 1125899906842624) (hq : Hid (q = (N : Int))) :
    Calls Try.prog 30 #[.agg #[.slice a len cap, .int .i64 q], .int .i64 0, .nilFunc] w (ExtPost w l (fun _ => false) 0 ((N + 0 + 7) / 8)) := by
  rw [hq.out]
  exact ext_nil l (fun _ => false) a len cap N 0 ((N + 0 + 7) / 8) w hs hl hN (by omega) rfl (by omega)

/-- The row that is answered, no error beside it. -/
def OneRow (w : World) (l : List Bool) (e : Ending) (w' : World) : Prop :=
  ∃ g m : Nat, e = .returned (.agg #[.slice (some ⟨g, 0, none⟩) m m, .int .i64 (l.length : Int)]) ∧ m = (l.length + 7) / 8 ∧ w.heap.size ≤ g ∧ Has w' g (bytesObj (Bs.pack l)) ∧ Below w.heap.size w w'

theorem ExtPost.pack {w w' : World} {l : List Bool} {f : Nat → Bool} {k m : Nat} {e : Ending} (h : ExtPost w l f k m e w') (hm : m = (l.length + k + 7) / 8) : OneRow w (more l f k) e w' := by
  obtain ⟨g, he, hg, hh, hb⟩ := h
  refine ⟨g, m, he, by rw [hm, more_length], hg, ?_, hb⟩
  have e2 : Bs.pack (more l f k) = Bs.packTo m (more l f k) := by unfold Bs.pack; rw [more_length, hm]
  rw [e2]
  exact hh

set_option maxHeartbeats 1000000 in
theorem of_any (a : Option Addr) (len cap : Nat) (l : List Bool) (w : World) (hs : Sl w (.slice a len cap) (Bs.pack l)) (hl : Hid (8 * len = l.length)) (hlen : len ≤ 140737488351232) :
    Calls Try.prog 28 #[.slice a len cap] w (OneRow w l) := by
  have HS := Lib.hid hs
  clear hs
  have hq : Hid ((8 : Int) * (len : Int) = ((8 * len : Nat) : Int)) := by show _ = _; omega
  have hk1 := Has.new w (.cells #[.slice none 0 0, .int .i64 0] 24)
  go_enter Try.func28, Try.ntmps28
  go_wp2_with fail
  refine (ext_nil_is l _ a len cap (8 * len) _ (HS.out.later (below2 _ _ _)) hl (by omega) hq).mono ?_
  rintro e w1 h1
  obtain ⟨g, m, rfl, hm, hg, hh, hb⟩ := h1.pack (by rw [← hl.out])
  obtain ⟨k1, k2, kb, ks⟩ := facts2 hb
  have HH := Lib.hid hh
  have HM := Lib.hid hm
  have hg' : w.heap.size + 2 ≤ g := by simpa using hg
  clear hb hh h1 hg hm hk1
  obtain ⟨c0, c1, f0, f1⟩ := k1.two
  go_wp2
  refine bodyPost_ret (v := .agg #[.slice (some ⟨g, 0, none⟩) m m, .int .i64 ((more l (fun _ => false) 0).length : Int)]) (by simp [results, Try.results28, go_sem, c0, c1]) rfl ⟨g, m, ?_, ?_, by omega, ?_, set2_below kb _ (Nat.le_refl _) _ _⟩
  · rw [more_zero]
  · rw [HM.out, more_zero]
  · refine Has.set (Has.set ?_ (by show g ≠ w.heap.size; omega) _) (by show g ≠ w.heap.size; omega) _
    rw [← more_zero l (fun _ => false)]
    exact HH.out

/-- A row with bits 0 behind it. -/
theorem more_false (l : List Bool) (k : Nat) : more l (fun _ => false) k = l ++ List.replicate k false := by
  unfold more
  congr 1
  apply List.ext_getElem?
  intro i
  by_cases h : i < k <;> simp [h]

set_option maxHeartbeats 400000 in
theorem alignBit (i : Nat) (w : World) :
    Calls Try.prog 40 (#[.int .i64 (i : Int)] ++ #[]) w fun e w' => e = .returned (.int .u8 ((false.toNat : Nat) : Int)) ∧ w = w' := by
  show Calls Try.prog 40 #[.int .i64 (i : Int)] w _
  go_enter Try.func40, Try.ntmps40
  go_wp2
  go_ret
  exact ⟨rfl, rfl⟩

theorem ext_is (F : FuncId) (hcall : ∀ (args : Array Value) (wx : World), (callFunc F args).run Try.prog wx = .ok (.enter F args) wx) (caps : Array Value) (l : List Bool) (f : Nat → Bool) (q1 q2 : Int) (a : Option Addr) (len cap N k : Nat) (w : World)
    (hs : Sl w (.slice a len cap) (Bs.pack l)) (hl : Hid (N = l.length)) (hN : N ≤ 1125899906842624) (hk : k ≤ 1125899906842624) (h1 : Hid (q1 = (N : Int))) (h2 : Hid (q2 = (k : Int)))
    (hnext : Hid (∀ (i : Nat) (wx : World), i < k → Below w.heap.size w wx → Calls Try.prog F (#[.int .i64 (i : Int)] ++ caps) wx fun e w' => e = .returned (.int .u8 ((f i).toNat : Int)) ∧ Below wx.heap.size wx w')) :
    Calls Try.prog 30 #[.agg #[.slice a len cap, .int .i64 q1], .int .i64 q2, .func (.func F) #[] caps] w (OneRow w (more l f k)) := by
  rw [h1.out, h2.out]
  exact (ext_any F hcall caps l f a len cap N k ((N + k + 7) / 8) w hs hl hN hk rfl hnext).mono fun e w' h => h.pack (by rw [← hl.out])

set_option maxHeartbeats 1000000 in
theorem align_bad (s : Value) (bs : List Nat) (N : Int) (w : World) (hs : Sl w s bs) (hN : N ≤ 9223372036854775807) (hr : ¬ (0 ≤ N ∧ Bs.right bs N.toNat)) :
    Calls Try.prog 26 #[.agg #[s, .int .i64 N]] w (NoRow w 2) := by
  have HS := Lib.hid hs
  have HR := Lib.hid hr
  clear hs hr
  obtain ⟨a, len, cap, rfl, hl⟩ := HS.out.shape
  clear hl
  go_enter Try.func26, Try.ntmps26
  go_wp2_with fail
  refine (check_bad _ bs N _ (HS.out.later (below2 _ _ _)) hN HR.out).mono ?_
  rintro e w1 ⟨rfl, hb1⟩
  obtain ⟨k1, k2, kb, ks⟩ := facts2 hb1
  clear hb1
  obtain ⟨c0, c1, f0, f1⟩ := k2.two
  go_wp2
  exact bodyPost_ret (v := .tuple #[.agg #[.slice none 0 0, .int .i64 0], .int .i64 2]) (by simp [results, Try.results26, go_sem, c0, c1]) rfl ⟨rfl, set2_below kb _ (by omega) _ _⟩

set_option maxHeartbeats 1000000 in
theorem align_ok (s : Value) (l : List Bool) (N : Nat) (w : World) (hs : Sl w s (Bs.pack l)) (hl : Hid (N = l.length)) (hN : N ≤ 1125899906842624) :
    Calls Try.prog 26 #[.agg #[s, .int .i64 (N : Int)]] w (RowPost w (more l (fun _ => false) (8 * ((N + 7) / 8) - N))) := by
  have HS := Lib.hid hs
  clear hs
  obtain ⟨a, len, cap, rfl, hl'⟩ := HS.out.shape
  rw [Bs.pack_length, ← hl.out] at hl'
  have HL := Lib.hid hl'
  have hlen : len ≤ 140737488355329 := by omega
  have hq : Hid ((8 : Int) * (len : Int) - (N : Int) = ((8 * ((N + 7) / 8) - N : Nat) : Int)) := by show _ = _; omega
  have hq8 : (8 : Int) * (len : Int) ≤ 1125899906842640 := by omega
  obtain ⟨k, hk⟩ : ∃ k, k = 8 * ((N + 7) / 8) - N := ⟨_, rfl⟩
  rw [← hk] at hq ⊢
  have hk7 : k ≤ 7 := by omega
  have HK := Lib.hid hk
  obtain ⟨L, hL⟩ : ∃ L, L = more l (fun _ => false) k := ⟨_, rfl⟩
  rw [← hL]
  have HLL := Lib.hid hL
  clear hl' hk hL
  go_enter Try.func26, Try.ntmps26
  go_wp2_with fail
  refine (check_ok _ (Bs.pack l) N _ (HS.out.later (below2 _ _ _)) (by omega) (by rw [hl.out]; exact Bs.pack_right l)).mono ?_
  rintro e w1 ⟨rfl, hb1⟩
  obtain ⟨k1, k2, kb, ks⟩ := facts2 hb1
  clear hb1
  obtain ⟨c0, c1, f0, f1⟩ := k1.two
  have HX : Hid (∀ (i : Nat) (wx : World), i < k → Below w1.heap.size w1 wx → Calls Try.prog 40 (#[.int .i64 (i : Int)] ++ #[]) wx fun e w' => e = .returned (.int .u8 (((fun (_ : Nat) => false) i).toNat : Int)) ∧ Below wx.heap.size wx w') := by
    intro i wx hi hb
    refine (alignBit i wx).mono ?_
    rintro e w' ⟨rfl, rfl⟩
    exact ⟨rfl, Below.refl _ _⟩
  go_wp2_with fail
  refine (ext_is 40 Try.call40 #[] l (fun _ => false) _ _ a len cap N k w1 (HS.out.later kb) hl hN (by omega) rfl hq HX).mono ?_
  clear HX c0 c1 f0 f1
  rw [← HLL.out]
  rintro e w3 ⟨g, m, rfl, hm, hg, hh, hb3⟩
  have HH := Lib.hid hh
  have HM := Lib.hid hm
  have k4 := k2.later hb3
  have kb4 := kb.trans (hb3.mono (by omega))
  clear hh hm k1 k2 kb hb3
  obtain ⟨c0, c1, f0, f1⟩ := k4.two
  go_wp2
  refine bodyPost_ret (v := .tuple #[.agg #[.slice (some ⟨g, 0, none⟩) m m, .int .i64 (L.length : Int)], .int .i64 0]) (by simp [results, Try.results26, go_sem, c0, c1]) rfl ⟨g, m, rfl, HM.out, by omega, ?_, set2_below kb4 _ (by omega) _ _⟩
  exact Has.set (Has.set HH.out (by show g ≠ w.heap.size + 1; omega) _) (by show g ≠ w.heap.size + 1; omega) _

/-- Join's closure tells the other row's bits. -/
theorem joinBit (p : Nat) (a : Option Addr) (len cap : Nat) (M : Int) (m : List Bool) (i : Nat) (w : World) (hp : Has w p (.cells #[.slice a len cap, .int .i64 M] 24)) (hs : Sl w (.slice a len cap) (Bs.pack m)) (hi : i < m.length) (hm : m.length ≤ 2251799813685248) :
    Calls Try.prog 39 (#[.int .i64 (i : Int)] ++ #[.pointer (some ⟨p, 0, none⟩)]) w fun e w' => e = .returned (.int .u8 ((m[i]?.getD false).toNat : Int)) ∧ w = w' := by
  show Calls Try.prog 39 #[.int .i64 (i : Int), .pointer (some ⟨p, 0, none⟩)] w _
  obtain ⟨b, hb⟩ : ∃ b, b = m[i]?.getD false := ⟨_, rfl⟩
  rw [← hb]
  have HB := Lib.hid hb
  have HS := Lib.hid hs
  have HI := Lib.hid hi
  have HM := Lib.hid hm
  obtain ⟨c0, c1, f0, f1⟩ := hp.two
  clear hb hs hi hm hp
  go_enter Try.func39, Try.ntmps39
  go_wp2_with fail
  refine (bitAt_is _ m _ i b _ HS.out rfl HB HI.out HM.out).mono ?_
  rintro e w1 ⟨rfl, rfl⟩
  go_wp2
  go_ret
  exact ⟨rfl, rfl⟩

theorem more_all (l m : List Bool) : more l (fun i => m[i]?.getD false) m.length = l ++ m := by
  unfold more
  congr 1
  apply List.ext_getElem?
  intro i
  by_cases h : i < m.length <;> simp [h]

set_option maxHeartbeats 1000000 in
theorem join_bad (s t : Value) (bs cs : List Nat) (N M : Int) (w : World) (hs : Sl w s bs) (ht : Sl w t cs) (hN : N ≤ 9223372036854775807) (hM : M ≤ 9223372036854775807) (hr : ¬ ((0 ≤ N ∧ Bs.right bs N.toNat) ∧ (0 ≤ M ∧ Bs.right cs M.toNat))) :
    Calls Try.prog 24 #[.agg #[s, .int .i64 N], .agg #[t, .int .i64 M]] w (NoRow w 2) := by
  have HS := Lib.hid hs
  have HT := Lib.hid ht
  have HR := Lib.hid hr
  clear hs ht hr
  obtain ⟨a, len, cap, rfl, hl⟩ := HS.out.shape
  obtain ⟨a2, len2, cap2, rfl, hl2⟩ := HT.out.shape
  clear hl hl2
  by_cases h1 : 0 ≤ N ∧ Bs.right bs N.toNat
  · have h2 : ¬ (0 ≤ M ∧ Bs.right cs M.toNat) := fun h => HR.out ⟨h1, h⟩
    obtain ⟨N', hN'⟩ := Int.eq_ofNat_of_zero_le h1.1
    subst hN'
    have H1 := Lib.hid h1
    have H2 := Lib.hid h2
    clear h1 h2
    go_enter Try.func24, Try.ntmps24
    go_wp2_with fail
    refine (check_ok _ bs N' _ (HS.out.later (below3 _ _ _ _)) (by omega) H1.out.2).mono ?_
    rintro e w1 ⟨rfl, hb1⟩
    obtain ⟨k1, k2, k3, kb, ks⟩ := facts3 hb1
    clear hb1
    obtain ⟨c0, c1, f0, f1⟩ := k2.two
    go_wp2_with fail
    refine (check_bad _ cs M _ (HT.out.later kb) hM H2.out).mono ?_
    rintro e w2 ⟨rfl, hb2⟩
    have k4 := k3.later hb2
    have kb4 := kb.trans (hb2.mono (by omega))
    clear k1 k2 k3 kb hb2 c0 c1 f0 f1
    obtain ⟨c0, c1, f0, f1⟩ := k4.two
    go_wp2
    exact bodyPost_ret (v := .tuple #[.agg #[.slice none 0 0, .int .i64 0], .int .i64 2]) (by simp [results, Try.results24, go_sem, c0, c1]) rfl ⟨rfl, set2_below kb4 _ (by omega) _ _⟩
  · have H1 := Lib.hid h1
    clear h1
    go_enter Try.func24, Try.ntmps24
    go_wp2_with fail
    refine (check_bad _ bs N _ (HS.out.later (below3 _ _ _ _)) hN H1.out).mono ?_
    rintro e w1 ⟨rfl, hb1⟩
    obtain ⟨k1, k2, k3, kb, ks⟩ := facts3 hb1
    clear hb1
    obtain ⟨c0, c1, f0, f1⟩ := k3.two
    go_wp2
    exact bodyPost_ret (v := .tuple #[.agg #[.slice none 0 0, .int .i64 0], .int .i64 2]) (by simp [results, Try.results24, go_sem, c0, c1]) rfl ⟨rfl, set2_below kb _ (by omega) _ _⟩

set_option maxHeartbeats 1000000 in
theorem join_ok (s t : Value) (l m : List Bool) (N M : Nat) (w : World) (hs : Sl w s (Bs.pack l)) (ht : Sl w t (Bs.pack m)) (hl : Hid (N = l.length)) (hm : Hid (M = m.length)) (hN : N ≤ 1125899906842624) (hM : M ≤ 1125899906842624) :
    Calls Try.prog 24 #[.agg #[s, .int .i64 (N : Int)], .agg #[t, .int .i64 (M : Int)]] w (RowPost w (l ++ m)) := by
  have HS := Lib.hid hs
  have HT := Lib.hid ht
  clear hs ht
  obtain ⟨a, len, cap, rfl, hl'⟩ := HS.out.shape
  obtain ⟨a2, len2, cap2, rfl, hl2'⟩ := HT.out.shape
  clear hl' hl2'
  obtain ⟨L, hL⟩ : ∃ L, L = l ++ m := ⟨_, rfl⟩
  rw [← hL]
  have HLL := Lib.hid hL
  clear hL
  go_enter Try.func24, Try.ntmps24
  go_wp2_with fail
  refine (check_ok _ (Bs.pack l) N _ (HS.out.later (below3 _ _ _ _)) (by omega) (by rw [hl.out]; exact Bs.pack_right l)).mono ?_
  rintro e w1 ⟨rfl, hb1⟩
  obtain ⟨k1, k2, k3, kb, ks⟩ := facts3 hb1
  clear hb1
  obtain ⟨c0, c1, f0, f1⟩ := k2.two
  go_wp2_with fail
  refine (check_ok _ (Bs.pack m) M _ (HT.out.later kb) (by omega) (by rw [hm.out]; exact Bs.pack_right m)).mono ?_
  rintro e w2 ⟨rfl, hb2⟩
  have q1 := k1.later hb2
  have q2 := k2.later hb2
  have q3 := k3.later hb2
  have qb := kb.trans (hb2.mono (by omega))
  have qs := hb2.size
  clear k1 k2 k3 kb hb2 c0 c1 f0 f1
  obtain ⟨c0, c1, f0, f1⟩ := q1.two
  obtain ⟨d0, d1, g0, g1⟩ := q2.two
  have HX : Hid (∀ (i : Nat) (wx : World), i < M → Below w2.heap.size w2 wx → Calls Try.prog 39 (#[.int .i64 (i : Int)] ++ #[.pointer (some ⟨w.heap.size + 1, 0, none⟩)]) wx fun e w' => e = .returned (.int .u8 (((fun (i : Nat) => m[i]?.getD false) i).toNat : Int)) ∧ Below wx.heap.size wx w') := by
    intro i wx hi hb
    refine (joinBit (w.heap.size + 1) a2 len2 cap2 (M : Int) m i wx (q2.later hb) ((HT.out.later qb).later hb) (by rw [← hm.out]; exact hi) (by rw [← hm.out]; omega)).mono ?_
    rintro e w' ⟨rfl, rfl⟩
    exact ⟨rfl, Below.refl _ _⟩
  have Q2 := Lib.hid q2
  go_wp2_with fail
  refine (ext_is 39 Try.call39 _ l (fun i => m[i]?.getD false) _ _ a len cap N M w2 (HS.out.later qb) hl hN hM rfl rfl HX).mono ?_
  clear HX c0 c1 f0 f1 d0 d1 g0 g1 Q2
  rw [hm.out, more_all, ← HLL.out]
  rintro e w3 ⟨g, n, rfl, hn, hg, hh, hb3⟩
  have HH := Lib.hid hh
  have HM := Lib.hid hn
  have k4 := q3.later hb3
  have kb4 := qb.trans (hb3.mono (by omega))
  clear hh hn q1 q2 q3 qb hb3
  obtain ⟨c0, c1, f0, f1⟩ := k4.two
  go_wp2
  refine bodyPost_ret (v := .tuple #[.agg #[.slice (some ⟨g, 0, none⟩) n n, .int .i64 (L.length : Int)], .int .i64 0]) (by simp [results, Try.results24, go_sem, c0, c1]) rfl ⟨g, n, rfl, HM.out, by omega, ?_, set2_below kb4 _ (by omega) _ _⟩
  exact Has.set (Has.set HH.out (by show g ≠ w.heap.size + 1 + 1; omega) _) (by show g ≠ w.heap.size + 1 + 1; omega) _

end Go.Proofs.Ytcehdngdkfoioaa
