/- Contract of record.lay where a number does not fit. -/
import Derived.Test.YtillckjohlbaiaaNlay

namespace Go.Proofs.Ytillckjohlbaiaa
set_option maxRecDepth 100000
open Go.RowKit Go.Shelf

attribute [local go_sem] Oper.semAt_some

set_option maxRecDepth 100000 in
set_option maxHeartbeats 4000000 in
theorem lay_stop (n : Nat) (gf H o : Nat) (L : List (Nat × Int)) (s : Nat) (hseq : SeqStop Try.prog gf #[.pointer (some ⟨H, o, none⟩)] #[] (L.map (fw H o)) s) (eg : ∀ args w, (callFunc gf args).run Try.prog w = .ok (.enter gf args) w)
    (v : Nat → Nat) (hwd : ∀ p ∈ L, p.2 = (p.2.toNat : Int) ∧ p.2.toNat ≤ 4) (hv : ∀ i p, i < s → L[i]? = some p → Fits p.2.toNat (v p.1)) (z : Int) (hz : ∀ p, L[s]? = some p → (p.2.toNat = 2 ∧ (z < 0 ∨ 65535 < z)) ∨ (p.2.toNat = 4 ∧ (z < 0 ∨ 4294967295 < z))) (hL0 : 0 < L.length) (hL : L.length ≤ 16) (mk : List Nat) (hmk : ∀ x ∈ mk, x < 256) (hml : mk.length = 4) (S : ByteArray) (_ : S.size ≤ 65535) (w : World)
    (hH : H < w.heap.size) (hc : ∀ i p, i < s → L[i]? = some p → w.cell? ⟨H, o + p.1, none⟩ = some (.int .i64 (v p.1 : Int))) (hcz : ∀ p, L[s]? = some p → w.cell? ⟨H, o + p.1, none⟩ = some (.int .i64 z)) :
    CallsIn Fence.wide n Try.prog 83 #[.string (strB mk), .func (.func gf) #[.pointer (some ⟨H, o, none⟩)] #[], .string S] w fun e w' =>
      e = .returned (.tuple #[.slice none 0 0, .int .i64 2]) ∧ Below w.heap.size w w' := by
  have hcv : ∀ W, (convert 9 22 (.string (strB mk))).run Try.prog W = .ok (.slice (some ⟨W.heap.size, 0, none⟩) (strB mk).size (grownCap W (strB mk).size 0 5)) (Lib.bytesWorld W 5 (strB mk)) := fun W =>
    Lib.run_convert_string_bytes W 9 22 5 (strB mk) Try.underlying9 Try.underlying22 Try.underlying5
  have hsz := strB_size mk
  rw [hml] at hsz
  obtain ⟨M, hM⟩ : ∃ M, strB mk = M := ⟨_, rfl⟩
  rw [hM] at hcv hsz ⊢
  have HSEQ := Lib.hid hseq
  have HV := Lib.hid hv
  have HC := Lib.hid hc
  have HW := Lib.hid hwd
  have HZ := Lib.hid hz
  have HCZ := Lib.hid hcz
  clear hseq hv hc hwd hz hcz
  refine callsIn_of_wp_marks Try.func83 rfl trivial ?_ rfl
  simp only [Try.ntmps83, List.size_toArray, List.length_cons, List.length_nil, Nat.reduceAdd, Nat.reduceSub, Array.replicate_succ, Array.replicate_zero, List.push_toArray, List.append_toArray, List.nil_append, List.cons_append]
  gi_wp2
  obtain ⟨X, hX⟩ : ∃ X, X = (w.alloc (.cells #[.slice none 0 0] 22)).alloc (.cells #[.int .i64 0] 26) := ⟨_, rfl⟩
  have hXz : X.heap.size = w.heap.size + 2 := by rw [hX]; simp
  have hX0 : Has X w.heap.size (.cells #[.slice none 0 0] 22 (0, 0)) := by rw [hX]; exact (Has.new w _).alloc _
  have hX1 : Has X (w.heap.size + 1) (.cells #[.int .i64 0] 26 (0, 0)) := by
    have := Has.new (w.alloc (.cells #[.slice none 0 0] 22)) (.cells #[.int .i64 0] 26)
    rw [World.size_alloc] at this
    rw [hX]; exact this
  have hXB : Below w.heap.size w X := by rw [hX]; exact below2 w _ _
  rw [← hX]
  have hbz : (Lib.bytesWorld X 5 M).heap.size = w.heap.size + 3 := by rw [Lib.bytesWorld_size, hXz]
  have hbB : Below X.heap.size X (Lib.bytesWorld X 5 M) := bytes_below X M
  have hbS : Sl (Lib.bytesWorld X 5 M) (.slice (some ⟨w.heap.size + 2, 0, none⟩) 4 (grownCap X 4 0 5)) mk := by
    have := bytes_sl X mk hmk (by omega)
    rw [hM, hXz, hml] at this
    exact this
  have hcp : 4 ≤ grownCap X 4 0 5 := grownCap_ge X 4 0 _
  rw [hbz]
  generalize grownCap X 4 0 5 = cp at *
  generalize Lib.bytesWorld X 5 M = Y at *
  obtain ⟨w1, hw1⟩ : ∃ w1, w1 = Y.alloc (.cells #[.slice (some ⟨w.heap.size + 1 + 1, 0, none⟩) 4 cp] 22) := ⟨_, rfl⟩
  rw [← hw1]
  have hz1 : w1.heap.size = w.heap.size + 4 := by rw [hw1]; simp [hbz]
  have b0 : Has w1 w.heap.size (.cells #[.slice none 0 0] 22 (0, 0)) := by rw [hw1]; exact (hX0.later hbB).alloc _
  have b1 : Has w1 (w.heap.size + 1) (.cells #[.int .i64 0] 26 (0, 0)) := by rw [hw1]; exact (hX1.later hbB).alloc _
  have b3 : Has w1 (w.heap.size + 3) (.cells #[.slice (some ⟨w.heap.size + 2, 0, none⟩) 4 cp] 22 (0, 0)) := by
    have := Has.new Y (.cells #[.slice (some ⟨w.heap.size + 1 + 1, 0, none⟩) 4 cp] 22)
    rw [hbz] at this
    rw [hw1]; exact this
  have hs1 : Sl w1 (.slice (some ⟨w.heap.size + 2, 0, none⟩) 4 cp) mk := by rw [hw1]; exact hbS.later (below1 Y _)
  have hB1 : Below w.heap.size w w1 := by rw [hw1]; exact (hXB.trans (hbB.mono (by omega))).trans ((below1 Y _).mono (by omega))
  clear hw1 hX hX0 hX1 hXB hbB hbS hbz hXz hcv
  have i0 : Lb w1.heap.size (w.heap.size + 2) 0 w1 (mk ++ laid (L.take 0) v) := by
    rw [hz1]
    refine ⟨_, 4, cp, b3, hcp, Or.inl ⟨rfl, rfl, ?_⟩⟩
    rw [List.take_zero]
    simpa [laid] using hs1
  have I0 := Lib.hid (⟨i0, b0, b1, hB1⟩ : Lb w1.heap.size (w.heap.size + 2) 0 w1 (mk ++ laid (L.take 0) v) ∧ Has w1 w.heap.size (.cells #[.slice none 0 0] 22 (0, 0)) ∧ Has w1 (w.heap.size + 1) (.cells #[.int .i64 0] 26 (0, 0)) ∧ Below w.heap.size w w1)
  clear i0 b0 b1 b3 hs1 hB1 hcp
  refine range_ret (a₁ := fun p => { tmps := #[.string M, .func (.func gf) #[.pointer (some ⟨H, o, none⟩)] #[], .string S, undef, undef, undef, .pointer (some ⟨w.heap.size, 0, none⟩), .pointer (some ⟨w.heap.size + 1, 0, none⟩), .pointer (some ⟨w.heap.size + 3, 0, none⟩), .pointer (some ⟨H, o + p.1, none⟩), .int .i64 p.2, undef, .string M, .slice (some ⟨w.heap.size + 1 + 1, 0, none⟩) 4 cp, .func (.func gf) #[.pointer (some ⟨H, o, none⟩)] #[], .pointer (some ⟨H, o + p.1, none⟩), .int .i64 p.2, undef, undef, undef, undef, undef, undef, undef, undef, undef, undef, undef, undef, undef, undef, undef], defers := [] })
    (gf := gf) (first := #[.pointer (some ⟨H, o, none⟩)]) (lb := #[]) rfl eg HSEQ.out (fun _ => rfl)
    (fun i W => Lb w1.heap.size (w.heap.size + 2) i W (mk ++ laid (L.take i) v) ∧ Has W w.heap.size (.cells #[.slice none 0 0] 22 (0, 0)) ∧ Has W (w.heap.size + 1) (.cells #[.int .i64 0] 26 (0, 0)) ∧ Below w.heap.size w W)
    (fun W => Has W w.heap.size (.cells #[.slice none 0 0] 22 (0, 0)) ∧ Has W (w.heap.size + 1) (.cells #[.int .i64 2] 26 (0, 0)) ∧ Below w.heap.size w W)
    (fun i A C h hl => ⟨h.1.lo hl (by omega) (by omega), hl.has h.2.1 (Or.inl (by omega)), hl.has h.2.2.1 (Or.inl (by omega)), hl.below h.2.2.2 (by omega) h.2.2.2.size⟩) (fun A C h hl => ⟨hl.has h.1 (Or.inl (by omega)), hl.has h.2.1 (Or.inl (by omega)), hl.below h.2.2 (by omega) h.2.2.size⟩) I0.out ?assign ?body ?last ?done
  case assign =>
    intro l p W K hK
    unfold fw fld
    gi_wp2
    exact hK
  case body =>
    rintro l i p W his hp ⟨hb, h0, h1, hB⟩ hsz
    have hpm : p ∈ L := List.mem_of_getElem? hp
    have hp2 := (HW.out p hpm).1
    have hfit := HV.out i p his hp
    have hlen : (laid (L.take i) v).length ≤ 64 := by
      have h1 := laid_le (L.take i) v (fun q hq => (HW.out q (List.mem_of_mem_take hq)).2)
      have h2 : (L.take i).length ≤ 16 := by rw [List.length_take]; omega
      omega
    have hsucc : mk ++ laid (L.take (i + 1)) v = (mk ++ laid (L.take i) v) ++ Fd.le p.2.toNat (v p.1) := by rw [laid_succ L v i p hp, List.append_assoc]
    rw [hsucc]
    have hlen2 : (mk ++ laid (L.take i) v).length ≤ 68 := by rw [List.length_append]; omega
    generalize mk ++ laid (L.take i) v = bs at *
    obtain ⟨a, cap, hbox, hcap, hsl⟩ := hb.sl (by omega)
    have hbx : w1.heap.size - 1 = w.heap.size + 3 := by omega
    rw [hbx] at hbox
    have hcH : W.cell? ⟨H, o + p.1, none⟩ = some (.int .i64 (v p.1 : Int)) := (hB.cell (p := ⟨H, o + p.1, none⟩) hH).trans (HC.out i p his hp)
    have HP := Lib.hid (wput_ok p.2.toNat a bs.length cap bs (v p.1) hfit hcap (by omega) W.drew (hsl.later (Below.refl _ _).drew))
    rw [← hp2] at HP
    have hbd : Has W.drew (w.heap.size + 3) (.cells #[.slice a bs.length cap] 22 (0, 0)) := hbox
    have hcB := hbd.one.1
    have hcHd : W.drew.cell? ⟨H, o + p.1, none⟩ = some (.int .i64 (v p.1 : Int)) := hcH
    have HE : Hid (∀ a2 cap2 w2, Mine w2 W.heap.size a2 (bs.length + p.2.toNat) cap2 (bs ++ Fd.le p.2.toNat (v p.1)) → Below W.heap.size W.drew w2 → ∀ (aa : Act), FixPost w1.heap.size (fun W => Lb w1.heap.size (w.heap.size + 2) (i + 1) W (bs ++ Fd.le p.2.toNat (v p.1)) ∧ Has W w.heap.size (.cells #[.slice none 0 0] 22 (0, 0)) ∧ Has W (w.heap.size + 1) (.cells #[.int .i64 0] 26 (0, 0)) ∧ Below w.heap.size w W) W .normal aa (w2.setCell ⟨w.heap.size + 3, 0, none⟩ (.slice a2 (bs.length + p.2.toNat) cap2))) := by
      intro a2 cap2 w2 hm hb2 aa
      have hbx2 : Has w2 (w.heap.size + 3) (.cells #[.slice a bs.length cap] 22 (0, 0)) := hbd.later hb2
      have hbW : Below W.heap.size W w2 := (Below.refl _ W).drew.trans hb2
      refine ⟨rfl, ?_, ⟨a2, _, cap2, ?_, hm.cap, Or.inr ⟨by omega, ?_⟩⟩, ?_, ?_, ?_⟩
      · refine (Up.of_below hbW).trans ⟨rfl, rfl, rfl, by simp [World.setCell], fun k hk _ => Below.heap_setCell _ _ _ _ (by show k ≠ w.heap.size + 3; omega)⟩
      · rw [hbx]; exact hbx2.setSelf _
      · exact (hm.weaken (by omega)).set (by omega) _
      · exact (h0.later hbW).set (by show _ ≠ w.heap.size + 3; omega) _
      · exact (h1.later hbW).set (by show _ ≠ w.heap.size + 3; omega) _
      · have hBB : Below w.heap.size w w2 := hB.trans (hbW.mono hB.size)
        exact hBB.trans ⟨rfl, rfl, rfl, by simp [World.setCell], fun k hk => Below.heap_setCell _ _ _ _ (by show k ≠ w.heap.size + 3; omega)⟩
    have hw2f : Hid (∀ w2, Below W.heap.size W.drew w2 → w2.cell? ⟨H, o + p.1, none⟩ = some (.int .i64 (v p.1 : Int)) ∧ w2.cell? ⟨w.heap.size + 3, 0, none⟩ = some (.slice a bs.length cap) ∧ w2.frozen? ⟨w.heap.size + 3, 0, none⟩ = false) := by
      intro w2 hb2
      exact ⟨(hb2.cell (p := ⟨H, o + p.1, none⟩) (Nat.lt_of_lt_of_le hH hB.size)).trans hcHd, (hbd.later hb2).one⟩
    obtain ⟨wd, hwd⟩ : ∃ wd, wd = p.2.toNat := ⟨_, rfl⟩
    rw [← hwd] at HP HE ⊢
    obtain ⟨p1, hp1⟩ : ∃ p1, p1 = p.1 := ⟨_, rfl⟩
    obtain ⟨q2, hq2⟩ : ∃ q2, q2 = p.2 := ⟨_, rfl⟩
    rw [← hp1] at HP HE hcHd hw2f ⊢
    rw [← hq2] at HP ⊢
    generalize bs.length = bl at *
    have hmx : Try.prog.follows .mixedOrders = true := by kernel_rfl
    clear hb h0 h1 hB hp hpm hp2 hfit hlen hsucc hlen2 hsl hbox hcH hbd hwd hp1 hq2 HSEQ HV HC HW HZ HCZ I0 hcap his
    gi_wp2
    refine Nr.region_round_held (S := fun w' => w'.cell? ⟨H, o + p1, none⟩ = some (.int .i64 (v p1 : Int))) hmx (by kernel_rfl) hcHd (fun _ => ?_)
    change wpAnyH _ _ _ _ _ 11 (Array.replicate 11 false) _ _
    refine wpAnyH_take (i := 0) (v := ?_) rfl (by kernel_rfl) (by kernel_rfl) (by kernel_rfl) (fun _ _ _ h => h) (Or.inl ⟨rfl, ?hy0⟩) (by first | exact hcHd | exact hSb) ?_
    case hy0 => intro w' hw'; clear hw'; go_simp; first | done | rfl
    try simp only [Act.put, List.getElem_toArray, List.getElem_cons_zero, List.setIfInBounds_toArray, List.set_cons_zero, List.set_cons_succ]
    refine wpAnyH_take (i := 2) (v := ?_) rfl (by kernel_rfl) (by kernel_rfl) (by kernel_rfl) (fun _ _ _ h => h) (Or.inl ⟨rfl, ?hy2⟩) (by first | exact hcHd | exact hSb) ?_
    case hy2 => intro w' hw'; clear hw'; go_simp; first | done | rfl
    try simp only [Act.put, List.getElem_toArray, List.getElem_cons_zero, List.getElem_cons_succ, List.setIfInBounds_toArray, List.set_cons_zero, List.set_cons_succ]
    refine wpAnyH_take (i := 3) (v := ?_) rfl (by kernel_rfl) (by kernel_rfl) (by kernel_rfl) (fun _ _ _ h => h) (Or.inl ⟨rfl, ?hy3⟩) (by first | exact hcHd | exact hSb) ?_
    case hy3 => intro w' hw'; clear hw'; go_simp; first | done | rfl
    try simp only [Act.put, List.getElem_toArray, List.getElem_cons_zero, List.getElem_cons_succ, List.setIfInBounds_toArray, List.set_cons_zero, List.set_cons_succ]
    refine wpAnyH_take (i := 4) (v := ?_) rfl (by kernel_rfl) (by kernel_rfl) (by kernel_rfl) (fun _ _ _ h => h) (Or.inl ⟨rfl, ?hy4⟩) (by first | exact hcHd | exact hSb) ?_
    case hy4 => intro w' hw'; have hw2' := hw'; clear hw'; go_simp; first | done | rfl
    try simp only [Act.put, List.getElem_toArray, List.getElem_cons_zero, List.getElem_cons_succ, List.setIfInBounds_toArray, List.set_cons_zero, List.set_cons_succ]
    refine wpAnyH_ready (rs := [1]) (by kernel_rfl) (by simp) ?_
    refine AllReadyH.cons rfl (fun K hK => ?_) AllReadyH.nil
    go_simp
    refine hK.out _ _ hcHd (fun _ => ?_)
    clear hK K
    try simp only [Act.put, List.getElem_toArray, List.getElem_cons_zero, List.getElem_cons_succ, List.setIfInBounds_toArray, List.set_cons_zero, List.set_cons_succ]
    refine wpAnyH_ready (rs := [5]) (by kernel_rfl) (by simp) ?_
    refine AllReadyH.cons rfl (fun K hK => ?_) AllReadyH.nil
    go_simp
    refine HP.out.mono ?_
    rintro e w2 ⟨a2, cap2, rfl, hm2, hb2⟩
    obtain ⟨hSb, hxb, hfb⟩ := hw2f.out w2 hb2
    have HF := Lib.hid (HE.out a2 cap2 w2 hm2 hb2)
    clear hm2 hb2 HE HP hw2f
    dsimp only
    refine hK.out _ _ hSb (fun _ => ?_)
    clear hK K
    try simp only [Act.put, List.getElem_toArray, List.getElem_cons_zero, List.getElem_cons_succ, List.setIfInBounds_toArray, List.set_cons_zero, List.set_cons_succ]
    refine wpAnyH_take (i := 6) (v := ?_) rfl (by kernel_rfl) (by kernel_rfl) (by kernel_rfl) (fun _ _ _ h => h) (Or.inl ⟨rfl, ?hy6⟩) (by first | exact hcHd | exact hSb) ?_
    case hy6 => intro w' hw'; clear hw'; go_simp; first | done | rfl
    try simp only [Act.put, List.getElem_toArray, List.getElem_cons_zero, List.getElem_cons_succ, List.setIfInBounds_toArray, List.set_cons_zero, List.set_cons_succ]
    refine wpAnyH_take (i := 7) (v := ?_) rfl (by kernel_rfl) (by kernel_rfl) (by kernel_rfl) (fun _ _ _ h => h) (Or.inl ⟨rfl, ?hy7⟩) (by first | exact hcHd | exact hSb) ?_
    case hy7 => intro w' hw'; clear hw'; go_simp; first | done | rfl
    try simp only [Act.put, List.getElem_toArray, List.getElem_cons_zero, List.getElem_cons_succ, List.setIfInBounds_toArray, List.set_cons_zero, List.set_cons_succ]
    refine wpAnyH_take (i := 8) (v := ?_) rfl (by kernel_rfl) (by kernel_rfl) (by kernel_rfl) (fun _ _ _ h => h) (Or.inl ⟨rfl, ?hy8⟩) hSb ?_
    case hy8 => intro w' hw'; clear hw'; go_simp; first | done | rfl
    try simp only [Act.put, List.getElem_toArray, List.getElem_cons_zero, List.getElem_cons_succ, List.setIfInBounds_toArray, List.set_cons_zero, List.set_cons_succ]
    have hSc : (w2.setCell ⟨w.heap.size + 3, 0, none⟩ (.slice a2 (bl + wd) cap2)).cell? ⟨H, o + p1, none⟩ = some (.int .i64 (v p1 : Int)) := by
      rw [cell_of_block (Below.heap_setCell _ _ _ _ (by show H ≠ w.heap.size + 3; omega)) (o + p1)]
      exact hSb
    refine wpAnyH_ready (rs := [9]) (by kernel_rfl) (by simp) ?_
    refine AllReadyH.cons rfl (fun K hK => ?_) AllReadyH.nil
    go_simp
    refine hK.out _ _ hSc (fun _ => ?_)
    clear hK K
    try simp only [Act.put, List.getElem_toArray, List.getElem_cons_zero, List.getElem_cons_succ, List.setIfInBounds_toArray, List.set_cons_zero, List.set_cons_succ]
    refine wpAnyH_take (i := 10) (v := ?_) rfl (by kernel_rfl) (by kernel_rfl) (by kernel_rfl) (fun _ _ _ h => h) (Or.inl ⟨rfl, ?hy10⟩) hSc ?_
    case hy10 => intro w' hw'; clear hw'; go_simp; first | done | rfl
    try simp only [Act.put, List.getElem_toArray, List.getElem_cons_zero, List.getElem_cons_succ, List.setIfInBounds_toArray, List.set_cons_zero, List.set_cons_succ]
    refine wpAnyH_done (by kernel_rfl) ?_ _
    refine Nr.NoBoth.normal ?_
    obtain ⟨w3, hw3⟩ : ∃ w3, w3 = w2.setCell ⟨w.heap.size + 3, 0, none⟩ (.slice a2 (bl + wd) cap2) := ⟨_, rfl⟩
    rw [← hw3] at HF ⊢
    clear hw3 hSc hSb hxb hfb
    gi_wp2
    exact HF.out _
  case last =>
    rintro l p W hp ⟨hb, h0, h1, hB⟩ hsz
    have hpm : p ∈ L := List.mem_of_getElem? hp
    have hp2 := (HW.out p hpm).1
    have hbad := HZ.out p hp
    have hlen : (laid (L.take s) v).length ≤ 64 := by
      have h1 := laid_le (L.take s) v (fun q hq => (HW.out q (List.mem_of_mem_take hq)).2)
      have h2 : (L.take s).length ≤ 16 := by rw [List.length_take]; omega
      omega
    have hlen2 : (mk ++ laid (L.take s) v).length ≤ 68 := by rw [List.length_append]; omega
    generalize mk ++ laid (L.take s) v = bs at *
    obtain ⟨a, cap, hbox, hcap, hsl⟩ := hb.sl (by omega)
    have hbx : w1.heap.size - 1 = w.heap.size + 3 := by omega
    rw [hbx] at hbox
    have hcH : W.cell? ⟨H, o + p.1, none⟩ = some (.int .i64 z) := (hB.cell (p := ⟨H, o + p.1, none⟩) hH).trans (HCZ.out p hp)
    have HP := Lib.hid (wput_bad p.2.toNat a bs.length cap z hbad W.drew)
    rw [← hp2] at HP
    have hbd : Has W.drew (w.heap.size + 3) (.cells #[.slice a bs.length cap] 22 (0, 0)) := hbox
    have hcB := hbd.one.1
    have hcHd : W.drew.cell? ⟨H, o + p.1, none⟩ = some (.int .i64 z) := hcH
    have h0d : Has W.drew w.heap.size (.cells #[.slice none 0 0] 22 (0, 0)) := h0
    have h1d : Has W.drew (w.heap.size + 1) (.cells #[.int .i64 0] 26 (0, 0)) := h1
    have HE : Hid (∀ w2, Below W.heap.size W.drew w2 → ∀ (aa : Act), RetPost w1.heap.size (fun W => Has W w.heap.size (.cells #[.slice none 0 0] 22 (0, 0)) ∧ Has W (w.heap.size + 1) (.cells #[.int .i64 2] 26 (0, 0)) ∧ Below w.heap.size w W) W .ret aa (((w2.setCell ⟨w.heap.size + 3, 0, none⟩ (.slice none 0 0)).setCell ⟨w.heap.size, 0, none⟩ (.slice none 0 0)).setCell ⟨w.heap.size + 1, 0, none⟩ (.int .i64 2))) := by
      intro w2 hb2 aa
      have hbW : Below W.heap.size W w2 := (Below.refl _ W).drew.trans hb2
      refine ⟨rfl, ?_, ?_, ?_, ?_⟩
      · refine (Up.of_below hbW).trans ⟨rfl, rfl, rfl, by simp [World.setCell], fun k hk _ => ?_⟩
        rw [Below.heap_setCell _ _ _ _ (by show k ≠ w.heap.size + 1; omega), Below.heap_setCell _ _ _ _ (by show k ≠ w.heap.size; omega), Below.heap_setCell _ _ _ _ (by show k ≠ w.heap.size + 3; omega)]
      · exact (((h0.later hbW).set (by show w.heap.size ≠ w.heap.size + 3; omega) _).setSelf _).set (by show w.heap.size ≠ w.heap.size + 1; omega) _
      · exact (((h1.later hbW).set (by show w.heap.size + 1 ≠ w.heap.size + 3; omega) _).set (by show w.heap.size + 1 ≠ w.heap.size; omega) _).setSelf _
      · have hBB : Below w.heap.size w w2 := hB.trans (hbW.mono hB.size)
        refine hBB.trans ⟨rfl, rfl, rfl, by simp [World.setCell], fun k hk => ?_⟩
        rw [Below.heap_setCell _ _ _ _ (by show k ≠ w.heap.size + 1; omega), Below.heap_setCell _ _ _ _ (by show k ≠ w.heap.size; omega), Below.heap_setCell _ _ _ _ (by show k ≠ w.heap.size + 3; omega)]
    have hw2f : Hid (∀ w2, Below W.heap.size W.drew w2 → w2.cell? ⟨H, o + p.1, none⟩ = some (.int .i64 z) ∧ w2.cell? ⟨w.heap.size + 3, 0, none⟩ = some (.slice a bs.length cap) ∧ w2.frozen? ⟨w.heap.size + 3, 0, none⟩ = false ∧ Has w2 w.heap.size (.cells #[.slice none 0 0] 22 (0, 0)) ∧ Has w2 (w.heap.size + 1) (.cells #[.int .i64 0] 26 (0, 0))) := by
      intro w2 hb2
      exact ⟨(hb2.cell (p := ⟨H, o + p.1, none⟩) (Nat.lt_of_lt_of_le hH hB.size)).trans hcHd, (hbd.later hb2).one.1, (hbd.later hb2).one.2, h0d.later hb2, h1d.later hb2⟩
    obtain ⟨p1, hp1⟩ : ∃ p1, p1 = p.1 := ⟨_, rfl⟩
    obtain ⟨q2, hq2⟩ : ∃ q2, q2 = p.2 := ⟨_, rfl⟩
    rw [← hp1] at hcHd hw2f ⊢
    rw [← hq2] at HP ⊢
    generalize bs.length = bl at *
    have hmx : Try.prog.follows .mixedOrders = true := by kernel_rfl
    clear hb h0 h1 h0d h1d hB hp hpm hp2 hlen hlen2 hbad hsl hbox hcH hbd hp1 hq2 HSEQ HV HC HW HZ HCZ I0 hcap
    gi_wp2
    refine Nr.region_round_held (S := fun w' => w'.cell? ⟨H, o + p1, none⟩ = some (.int .i64 z)) hmx (by kernel_rfl) hcHd (fun _ => ?_)
    change wpAnyH _ _ _ _ _ 11 (Array.replicate 11 false) _ _
    refine wpAnyH_take (i := 0) (v := ?_) rfl (by kernel_rfl) (by kernel_rfl) (by kernel_rfl) (fun _ _ _ h => h) (Or.inl ⟨rfl, ?hy0⟩) (by first | exact hcHd | exact hSb) ?_
    case hy0 => intro w' hw'; clear hw'; go_simp; first | done | rfl
    try simp only [Act.put, List.getElem_toArray, List.getElem_cons_zero, List.setIfInBounds_toArray, List.set_cons_zero, List.set_cons_succ]
    refine wpAnyH_take (i := 2) (v := ?_) rfl (by kernel_rfl) (by kernel_rfl) (by kernel_rfl) (fun _ _ _ h => h) (Or.inl ⟨rfl, ?hy2⟩) (by first | exact hcHd | exact hSb) ?_
    case hy2 => intro w' hw'; clear hw'; go_simp; first | done | rfl
    try simp only [Act.put, List.getElem_toArray, List.getElem_cons_zero, List.getElem_cons_succ, List.setIfInBounds_toArray, List.set_cons_zero, List.set_cons_succ]
    refine wpAnyH_take (i := 3) (v := ?_) rfl (by kernel_rfl) (by kernel_rfl) (by kernel_rfl) (fun _ _ _ h => h) (Or.inl ⟨rfl, ?hy3⟩) (by first | exact hcHd | exact hSb) ?_
    case hy3 => intro w' hw'; clear hw'; go_simp; first | done | rfl
    try simp only [Act.put, List.getElem_toArray, List.getElem_cons_zero, List.getElem_cons_succ, List.setIfInBounds_toArray, List.set_cons_zero, List.set_cons_succ]
    refine wpAnyH_take (i := 4) (v := ?_) rfl (by kernel_rfl) (by kernel_rfl) (by kernel_rfl) (fun _ _ _ h => h) (Or.inl ⟨rfl, ?hy4⟩) (by first | exact hcHd | exact hSb) ?_
    case hy4 => intro w' hw'; have hw2' := hw'; clear hw'; go_simp; first | done | rfl
    try simp only [Act.put, List.getElem_toArray, List.getElem_cons_zero, List.getElem_cons_succ, List.setIfInBounds_toArray, List.set_cons_zero, List.set_cons_succ]
    refine wpAnyH_ready (rs := [1]) (by kernel_rfl) (by simp) ?_
    refine AllReadyH.cons rfl (fun K hK => ?_) AllReadyH.nil
    go_simp
    refine hK.out _ _ hcHd (fun _ => ?_)
    clear hK K
    try simp only [Act.put, List.getElem_toArray, List.getElem_cons_zero, List.getElem_cons_succ, List.setIfInBounds_toArray, List.set_cons_zero, List.set_cons_succ]
    refine wpAnyH_ready (rs := [5]) (by kernel_rfl) (by simp) ?_
    refine AllReadyH.cons rfl (fun K hK => ?_) AllReadyH.nil
    go_simp
    refine HP.out.mono ?_
    rintro e w2 ⟨rfl, hb2⟩
    obtain ⟨hSb, hxb, hfb, hr0, hr1⟩ := hw2f.out w2 hb2
    have HR0 := Lib.hid hr0
    have HR1 := Lib.hid hr1
    clear hr0 hr1
    have HF := Lib.hid (HE.out w2 hb2)
    clear hb2 HE HP hw2f
    dsimp only
    refine hK.out _ _ hSb (fun _ => ?_)
    clear hK K
    try simp only [Act.put, List.getElem_toArray, List.getElem_cons_zero, List.getElem_cons_succ, List.setIfInBounds_toArray, List.set_cons_zero, List.set_cons_succ]
    refine wpAnyH_take (i := 6) (v := ?_) rfl (by kernel_rfl) (by kernel_rfl) (by kernel_rfl) (fun _ _ _ h => h) (Or.inl ⟨rfl, ?hy6⟩) (by first | exact hcHd | exact hSb) ?_
    case hy6 => intro w' hw'; clear hw'; go_simp; first | done | rfl
    try simp only [Act.put, List.getElem_toArray, List.getElem_cons_zero, List.getElem_cons_succ, List.setIfInBounds_toArray, List.set_cons_zero, List.set_cons_succ]
    refine wpAnyH_take (i := 7) (v := ?_) rfl (by kernel_rfl) (by kernel_rfl) (by kernel_rfl) (fun _ _ _ h => h) (Or.inl ⟨rfl, ?hy7⟩) (by first | exact hcHd | exact hSb) ?_
    case hy7 => intro w' hw'; clear hw'; go_simp; first | done | rfl
    try simp only [Act.put, List.getElem_toArray, List.getElem_cons_zero, List.getElem_cons_succ, List.setIfInBounds_toArray, List.set_cons_zero, List.set_cons_succ]
    refine wpAnyH_take (i := 8) (v := ?_) rfl (by kernel_rfl) (by kernel_rfl) (by kernel_rfl) (fun _ _ _ h => h) (Or.inl ⟨rfl, ?hy8⟩) hSb ?_
    case hy8 => intro w' hw'; clear hw'; go_simp; first | done | rfl
    try simp only [Act.put, List.getElem_toArray, List.getElem_cons_zero, List.getElem_cons_succ, List.setIfInBounds_toArray, List.set_cons_zero, List.set_cons_succ]
    have hSc : (w2.setCell ⟨w.heap.size + 3, 0, none⟩ (.slice none 0 0)).cell? ⟨H, o + p1, none⟩ = some (.int .i64 z) := by
      rw [cell_of_block (Below.heap_setCell _ _ _ _ (by show H ≠ w.heap.size + 3; omega)) (o + p1)]
      exact hSb
    refine wpAnyH_ready (rs := [9]) (by kernel_rfl) (by simp) ?_
    refine AllReadyH.cons rfl (fun K hK => ?_) AllReadyH.nil
    go_simp
    refine hK.out _ _ hSc (fun _ => ?_)
    clear hK K
    try simp only [Act.put, List.getElem_toArray, List.getElem_cons_zero, List.getElem_cons_succ, List.setIfInBounds_toArray, List.set_cons_zero, List.set_cons_succ]
    refine wpAnyH_take (i := 10) (v := ?_) rfl (by kernel_rfl) (by kernel_rfl) (by kernel_rfl) (fun _ _ _ h => h) (Or.inl ⟨rfl, ?hy10⟩) hSc ?_
    case hy10 => intro w' hw'; clear hw'; go_simp; first | done | rfl
    try simp only [Act.put, List.getElem_toArray, List.getElem_cons_zero, List.getElem_cons_succ, List.setIfInBounds_toArray, List.set_cons_zero, List.set_cons_succ]
    refine wpAnyH_done (by kernel_rfl) ?_ _
    refine Nr.NoBoth.normal ?_
    obtain ⟨w3, hw3⟩ : ∃ w3, w3 = w2.setCell ⟨w.heap.size + 3, 0, none⟩ (.slice none 0 0) := ⟨_, rfl⟩
    rw [← hw3] at HF ⊢
    have g0 := (HR0.out.set (a := ⟨w.heap.size + 3, 0, none⟩) (by show w.heap.size ≠ w.heap.size + 3; omega) (.slice none 0 0)).one
    have g1 := (HR1.out.set (a := ⟨w.heap.size + 3, 0, none⟩) (by show w.heap.size + 1 ≠ w.heap.size + 3; omega) (.slice none 0 0)).one
    rw [← hw3] at g0 g1
    obtain ⟨c0, d0⟩ := g0
    obtain ⟨c1, d1⟩ := g1
    clear hw3 hSc hSb hxb hfb
    gi_wp2
    exact HF.out _
  case done =>
    rintro W ⟨h0, h1, hB⟩ hD
    have H0 := Lib.hid h0
    have H1 := Lib.hid h1
    have HB := Lib.hid hB
    have HD := Lib.hid hD
    have HZ1 := Lib.hid hz1
    clear HSEQ HV HC HW HZ HCZ I0 h0 h1 hB hD hz1
    gi_wp2
    refine ⟨by simp, .inl ⟨_, _, rfl, run_takeDeferred HD.out, ?_⟩⟩
    have hz := HZ1.out
    have q0 : Has (W.putObj w1.heap.size (.deferred none)) w.heap.size (.cells #[.slice none 0 0] 22 (0, 0)) := (Lo.putObj W w1.heap.size _).has H0.out (Or.inl (by omega))
    have q1 : Has (W.putObj w1.heap.size (.deferred none)) (w.heap.size + 1) (.cells #[.int .i64 2] 26 (0, 0)) := (Lo.putObj W w1.heap.size _).has H1.out (Or.inl (by omega))
    have q4 : Below w.heap.size w (W.putObj w1.heap.size (.deferred none)) := (Lo.putObj W w1.heap.size _).below HB.out (by omega) HB.out.size
    generalize W.putObj w1.heap.size (.deferred none) = w4 at *
    refine ⟨.tuple #[.slice none 0 0, .int .i64 2], ?_, rfl, q4⟩
    have e0 := q0.one.1
    have e1 := q1.one.1
    rw [results_cells2 rfl]
    clear q0 q1 q4 hz
    go_simp
end Go.Proofs.Ytillckjohlbaiaa
