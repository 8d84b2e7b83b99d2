/- The document's examples of sector. -/
import Derived.Test.YtillckjohlbaiaaCapp
import Derived.Test.YtillckjohlbaiaaEstr

namespace Go.Proofs.Ytillckjohlbaiaa
set_option maxRecDepth 100000
open Go.RowKit

namespace Ek
def X : List Nat := fil 120 512
def Y : List Nat := fil 121 512
def Z : List Nat := fil 122 512
theorem X_length : X.length = 512 := fil_length _ _
theorem Y_length : Y.length = 512 := fil_length _ _
theorem Z_length : Z.length = 512 := fil_length _ _
def v1 : Dk := write (fresh 2) 1 X
def v2 : Dk := sync v1
def v3 : Dk := write v2 1 Y
def v4 : Dk := write v3 0 Z
def v5 : Dk := crash v4 (nth [12])
def v6 : Dk := fuse v5 0
def v7 : Dk := write v6 1 Y
theorem write_ok' {d : Dk} {i : Int} {bs : List Nat} (h1 : 0 ≤ i) (h2 : i < (d.n : Int)) (h3 : bs.length = 512) (h4 : d.dark = false) : write d i bs = change (added d i bs) ∧ writeE d i bs = changeE d := by
  have hb : ¬ Bad d i bs := by unfold Bad; omega
  unfold write writeE
  rw [if_neg hb, if_neg hb, if_neg (by simp [h4]), if_neg (by simp [h4])]
  exact ⟨rfl, rfl⟩
theorem change_free {d : Dk} (h1 : d.dark = false) (h2 : d.left = -1) : change d = d ∧ changeE d = 0 := by
  unfold change changeE
  have : ¬ (d.dark = true ∨ d.left = 0) := by rw [h1, h2]; simp
  rw [if_neg this, if_neg this, if_pos h2]
  exact ⟨rfl, rfl⟩
theorem write_free {d : Dk} {i : Int} {bs : List Nat} (h1 : 0 ≤ i) (h2 : i < (d.n : Int)) (h3 : bs.length = 512) (h4 : d.dark = false) (h5 : d.left = -1) : write d i bs = added d i bs ∧ writeE d i bs = 0 := by
  obtain ⟨a, b⟩ := write_ok' h1 h2 h3 h4
  obtain ⟨c, _⟩ := change_free (d := added d i bs) h4 h5
  obtain ⟨_, e⟩ := change_free h4 h5
  exact ⟨a.trans c, b.trans e⟩
theorem v1_is : v1 = added (fresh 2) 1 X ∧ writeE (fresh 2) 1 X = 0 := write_free (by decide) (by decide) X_length rfl rfl
theorem v2_is : v2 = settled v1 (fun _ => 1) ∧ changeE v1 = 0 := by
  obtain ⟨a, b⟩ := change_free (d := v1) (by rw [v1_is.1]; rfl) (by rw [v1_is.1]; rfl)
  unfold v2 sync
  rw [if_pos b, a]
  exact ⟨rfl, b⟩
theorem v2_p : v2.n = 2 ∧ v2.dark = false ∧ v2.left = -1 ∧ v2.loose = [] ∧ v2.used = 1 ∧ v2.sure = lay (fun _ => zrow) 1 X 512 := by
  rw [v2_is.1, v1_is.1]; exact ⟨rfl, rfl, rfl, rfl, rfl, rfl⟩
theorem v3_is : v3 = added v2 1 Y ∧ writeE v2 1 Y = 0 := write_free (by decide) (by rw [v2_p.1]; decide) Y_length v2_p.2.1 v2_p.2.2.1
theorem v3_p : v3.n = 2 ∧ v3.dark = false ∧ v3.left = -1 ∧ v3.loose = [(1, Y)] ∧ v3.used = 2 ∧ v3.sure = v2.sure := by
  rw [v3_is.1]; exact ⟨v2_p.1, v2_p.2.1, v2_p.2.2.1, by simp [added, v2_p.2.2.2.1], by simp [added, v2_p.2.2.2.2.1], rfl⟩
theorem v4_is : v4 = added v3 0 Z ∧ writeE v3 0 Z = 0 := write_free (by decide) (by rw [v3_p.1]; decide) Z_length v3_p.2.1 v3_p.2.2.1
theorem v4_p : v4.n = 2 ∧ v4.loose = [(1, Y), (0, Z)] ∧ v4.used = 3 ∧ v4.sure = v2.sure := by
  rw [v4_is.1]; exact ⟨v3_p.1, by simp [added, v3_p.2.2.2.1], by simp [added, v3_p.2.2.2.2.1], v3_p.2.2.2.2.2⟩
theorem v5_p : v5.n = 2 ∧ v5.dark = false ∧ v5.left = -1 ∧ v5.loose = [] ∧ v5.used = 3 := ⟨v4_p.1, rfl, rfl, rfl, v4_p.2.2.1⟩
theorem now5 : now v5 1 = Y.take 10 ++ X.drop 10 := by
  have e : v5.sure = settleTo v4.sure v4.loose (nth [12]) v4.loose.length := rfl
  unfold now
  rw [show v5.loose = [] from rfl]
  show v5.sure 1 = _
  rw [e, v4_p.2.1, v4_p.2.2.2, v2_p.2.2.2.2.2]
  have h0 : share 1 (nth [12] 0) = 10 := by decide
  have h1 : share 0 (nth [12] 1) = 0 := by decide
  simp only [settleTo, List.length_cons, List.length_nil, Nat.zero_add, Nat.reduceAdd, List.getElem?_cons_zero, List.getElem?_cons_succ, h0, h1]
  simp only [lay]
  have hx : X.take 512 = X := List.take_of_length_le (by rw [X_length]; exact Nat.le_refl _)
  have hz : zrow.drop 512 = [] := List.drop_of_length_le (by rw [zrow_length]; exact Nat.le_refl _)
  simp [hx, hz]
theorem v6_p : v6.n = 2 ∧ v6.dark = false ∧ v6.left = 0 ∧ v6.loose = [] ∧ v6.used = 3 := ⟨v5_p.1, rfl, rfl, rfl, v5_p.2.2.2.2⟩
theorem v7_is : v7 = { added v6 1 Y with dark := true } ∧ writeE v6 1 Y = 6 := by
  obtain ⟨a, b⟩ := write_ok' (d := v6) (i := 1) (bs := Y) (by decide) (by rw [v6_p.1]; decide) Y_length v6_p.2.1
  refine ⟨?_, ?_⟩
  · unfold v7; rw [a]; unfold change; rw [if_pos (Or.inr (show (added v6 1 Y).left = 0 from rfl))]
  · rw [b]; unfold changeE; rw [if_pos (Or.inr (show v6.left = 0 from rfl))]
theorem v7_p : v7.n = 2 ∧ v7.dark = true ∧ v7.loose.length = 1 := by
  rw [v7_is.1]; exact ⟨v6_p.1, rfl, by simp [added, v6_p.2.2.2.1]⟩
theorem readE5 : readE v5 1 = 0 := by unfold readE; rw [v5_p.1, v5_p.2.1]; decide
theorem readE7 : readE v7 1 = 6 := by unfold readE; rw [v7_p.1, v7_p.2.1]; decide
end Ek
/-- A call on the disk, as the walk of lives takes it: the answer, and the disk behind it. -/
theorem lv_filled_write {w0 w w' : World} {b : Nat} {d : Ek.Dk} {N : Nat} {c n : Nat} {e : Ending} (h : Lv w0 w b d N) (hf : FilPost w c n e w') (hn : n ≤ 1000) (i : Int) (hu : d.used < 1000000) :
    Calls Try.prog 22 #[.pointer (some ⟨b, 0, none⟩), .int .i64 i, .slice (some ⟨w.heap.size, 0, none⟩) n n] w' (LvP w0 b (Ek.write d i (Ek.fil c n)) (.int .i64 (Ek.writeE d i (Ek.fil c n)))) :=
  lv_write (h.top.later hf.2.2.1) i _ _ (hf.sl hn) (fun g off spot len cap e => by injection e with e1 _ _; injection e1 with e1; injection e1 with e1 _ _; omega) hu

theorem ks_one {w : World} {g : Nat} {k : Int} (h : Has w g (.cells #[.int .i64 k] 3 (0, 0))) (hk : -9223372036854775808 ≤ k ∧ k ≤ 9223372036854775807) : Ks w (.slice (some ⟨g, 0, none⟩) 1 1) [k] := by
  refine ⟨_, 1, rfl, by simp, by simpa using hk, fun _ => ⟨g, 0, rfl, fun i hi => ?_⟩⟩
  obtain rfl : i = 0 := by simpa using hi
  rw [h.cell]; rfl

theorem has_sl {w : World} {g : Nat} {t : TypeId} {bs : List Nat} (h : Has w g (.cells (vb bs).toArray t (0, 0))) (h8 : ∀ x ∈ bs, x < 256) (hl : bs.length ≤ 1000000) (n cap : Nat) (hn : n = bs.length) : Sl w (.slice (some ⟨g, 0, none⟩) n cap) bs := by
  refine ⟨_, n, cap, rfl, hn, by omega, fun h => (by cases h), h8, fun _ => ⟨g, 0, rfl, h.lt, fun i hi => ?_⟩⟩
  rw [Nat.zero_add, h.cell, List.getElem?_toArray, vb_get, List.getElem?_eq_getElem (by omega)]
  simp
theorem bytesAt.from {w : World} {g : Nat} {bs : List Nat} (h : bytesAt w g bs) (h8 : ∀ x ∈ bs, x < 256) (hl : bs.length ≤ 1000000) (off n cap : Nat) (hn : off + n = bs.length) : Sl w (.slice (some ⟨g, off, none⟩) n cap) (bs.drop off) := by
  refine ⟨_, n, cap, rfl, by rw [List.length_drop]; omega, by omega, fun h => (by cases h), fun x hx => h8 x (List.mem_of_mem_drop hx), fun _ => ⟨g, off, rfl, h.lt, fun i hi => ?_⟩⟩
  rw [h.cell, List.getElem?_toArray, vb_get, List.getElem?_drop, List.getElem?_eq_getElem (by omega)]
  simp

/-- A disk beside a block g that is not its. -/
def Lx (w0 w : World) (b : Nat) (d : Ek.Dk) (g : Nat) : Prop :=
  ∃ S : Nat → Prop, Dsk w S b d ∧ (∀ k, S k → w0.heap.size ≤ k ∧ k < w.heap.size ∧ k ≠ g) ∧ g < w.heap.size ∧ Below w0.heap.size w0 w
theorem Lx.lv {w0 w : World} {b : Nat} {d : Ek.Dk} {g : Nat} (h : Lx w0 w b d g) : Lv w0 w b d w.heap.size := by
  obtain ⟨S, hd, hs, _, hb⟩ := h
  exact ⟨S, hd, fun k hk => ⟨(hs k hk).1, (hs k hk).2.1⟩, Nat.le_refl _, hb⟩
theorem Lx.later {w0 w w' : World} {b : Nat} {d : Ek.Dk} {g : Nat} (h : Lx w0 w b d g) (hb : Below w.heap.size w w') : Lx w0 w' b d g := by
  obtain ⟨S, hd, hs, hg, hb0⟩ := h
  have := hb.size
  exact ⟨S, hd.later hb, fun k hk => ⟨(hs k hk).1, by have := (hs k hk).2.1; omega, (hs k hk).2.2⟩, by omega, hb0.trans (hb.mono hb0.size)⟩
theorem lx_of {w0 w w' : World} {b : Nat} {d : Ek.Dk} {v : Value} {e : Ending} {S : Nat → Prop} {g : Nat} (hs : ∀ k, S k → w0.heap.size ≤ k ∧ k < w.heap.size ∧ k ≠ g) (hg : g < w.heap.size) (hb : Below w0.heap.size w0 w) (h : DP w S b d v e w') : e = .returned v ∧ Lx w0 w' b d g ∧ w'.heap[g]? = w.heap[g]? := by
  obtain ⟨e1, S', hd, ht, hk⟩ := h
  have h1 := ht.size
  have h0 := hb.size
  refine ⟨e1, ⟨S', hd, fun k hk' => ?_, by omega, ht.below hb (fun k hk => (hs k hk).1) h0⟩, ht.block g hg (fun hS => (hs g hS).2.2 rfl)⟩
  rcases hk k hk' with h | h
  · have := hs k h; exact ⟨this.1, by omega, this.2.2⟩
  · exact ⟨by omega, h.2, by omega⟩
theorem lx_fuse {w0 w : World} {b : Nat} {d : Ek.Dk} {g : Nat} (h : Lx w0 w b d g) (n : Int) (hn9 : n ≤ 9223372036854775807) : Calls Try.prog 31 #[.pointer (some ⟨b, 0, none⟩), .int .i64 n] w fun e w' => e = .returned (.tuple #[]) ∧ Lx w0 w' b (Ek.fuse d n) g ∧ w'.heap[g]? = w.heap[g]? := by
  obtain ⟨S, hd, hS, hn, hb⟩ := h
  exact (fuse_any w S b d n hn9 hd).mono fun e w' hp => lx_of hS hn hb hp
theorem lx_write {w0 w : World} {b : Nat} {d : Ek.Dk} {g : Nat} (h : Lx w0 w b d g) (i : Int) (s : Value) (bs : List Nat) (N : Nat) (hN : w.heap.size ≤ N) (w' : World) (hbw : Below w.heap.size w w') (hs : Sl w' s bs) (hg : ∀ g off spot len cap, s = .slice (some ⟨g, off, spot⟩) len cap → N ≤ g) (hu : d.used < 1000000) :
    Calls Try.prog 22 #[.pointer (some ⟨b, 0, none⟩), .int .i64 i, s] w' fun e w2 => e = .returned (.int .i64 (Ek.writeE d i bs)) ∧ Lx w0 w2 b (Ek.write d i bs) g ∧ w2.heap[g]? = w'.heap[g]? := by
  obtain ⟨S, hd, hS, hn, hb⟩ := h
  have hsz := hbw.size
  exact (write_any w' S b d i bs s (hd.later hbw) hs (fun g off spot len cap e hk => by have := hg g off spot len cap e; have := (hS g hk).2.1; omega) hu).mono fun e w' hp => lx_of (fun k hk => ⟨(hS k hk).1, by have := (hS k hk).2.1; omega, (hS k hk).2.2⟩) (by omega) (hb.trans (hbw.mono hb.size)) hp

set_option maxRecDepth 100000 in
set_option maxHeartbeats 4000000 in
theorem lives_is (w : World) : Calls Try.prog 15 #[] w fun e w' => e = .returned (.bool true) ∧ Below w.heap.size w w' := by
  go_enter Try.func15, Try.ntmps15
  go_wp2_with fail
  refine (lv_new (Below.refl w.heap.size w) 2 (by omega) (by omega)).mono ?_
  rintro e w1 ⟨b, rfl, H1⟩
  go_wp2_with fail
  refine (filled_len w1 120 512 0 rfl).mono ?_
  rintro e w2 F
  have ef := F.1
  subst ef
  have CC := lv_filled_write H1 F (by decide) 1 (by decide)
  rw [show Ek.writeE _ 1 (Ek.fil 120 512) = 0 from Ek.v1_is.2] at CC
  clear F H1 
  go_wp2_with fail
  refine CC.mono ?_
  clear CC
  rintro e w3 ⟨rfl, H3⟩
  replace H3 : Lv w w3 b Ek.v1 w3.heap.size := H3
  go_wp2_with fail
  have CC := lv_sync H3 (show Ek.v1.used ≤ 1000 by rw [Ek.v1_is.1]; decide)
  rw [Ek.v2_is.2] at CC
  refine CC.mono ?_
  clear CC H3
  rintro e w4 ⟨rfl, H4⟩
  replace H4 : Lv w w4 b Ek.v2 w4.heap.size := H4
  go_wp2_with fail
  refine (filled_len w4 121 512 0 rfl).mono ?_
  rintro e w5 F
  have ef := F.1
  subst ef
  have CC := lv_filled_write H4 F (by decide) 1 (by rw [Ek.v2_p.2.2.2.2.1]; decide)
  rw [show Ek.writeE _ 1 (Ek.fil 121 512) = 0 from Ek.v3_is.2] at CC
  clear F H4 
  go_wp2_with fail
  refine CC.mono ?_
  clear CC
  rintro e w6 ⟨rfl, H6⟩
  replace H6 : Lv w w6 b Ek.v3 w6.heap.size := H6
  go_wp2_with fail
  refine (filled_len w6 122 512 0 rfl).mono ?_
  rintro e w7 F
  have ef := F.1
  subst ef
  have CC := lv_filled_write H6 F (by decide) 0 (by rw [Ek.v3_p.2.2.2.2.1]; decide)
  rw [show Ek.writeE _ 0 (Ek.fil 122 512) = 0 from Ek.v4_is.2] at CC
  clear F H6 
  go_wp2_with fail
  refine CC.mono ?_
  clear CC
  rintro e w8 ⟨rfl, H8⟩
  replace H8 : Lv w w8 b Ek.v4 w8.heap.size := H8
  go_wp2_with fail
  have CC := lv_loose H8
  rw [show (Ek.v4.loose.length : Int) = 2 by rw [Ek.v4_p.2.1]; rfl] at CC
  refine CC.mono ?_
  clear CC
  rintro e w' ⟨rfl, rfl⟩
  have HC := Has.new w8 (.cells #[.int .i64 12] 3)
  have CC := lv_crash (H8.later (below1 w8 (.cells #[.int .i64 12] 3))) _ _ (ks_one HC (by decide))
  clear H8 HC
  go_wp2_with fail
  refine CC.mono ?_
  clear CC
  rintro e w9 ⟨rfl, H9⟩
  replace H9 : Lv w w9 b Ek.v5 w9.heap.size := H9
  go_wp2_with fail
  refine (lv_read H9 1).mono ?_
  rintro e w10 ⟨hb10, hr⟩
  rcases hr with ⟨hr, _⟩ | ⟨_, g, rfl, hg0, hg⟩
  · exact absurd Ek.readE5 hr
  replace hg : Has w10 g (.cells (vb (Ek.Y.take 10 ++ Ek.X.drop 10)).toArray 113 (0, 0)) := by rw [← Ek.now5]; exact hg
  have H10 : Lx w w10 b Ek.v5 g := by
    obtain ⟨S, hd, hS, hn, hb⟩ := H9
    have h1 := hb10.size
    have h2 := hg.lt
    exact ⟨S, hd.later hb10, fun k hk => ⟨(hS k hk).1, by have := (hS k hk).2; omega, by have := (hS k hk).2; omega⟩, h2, hb.trans (hb10.mono hb.size)⟩
  have HG := Lib.hid hg
  clear H9 hb10 hg0 hg
  go_wp2_with fail
  refine (lx_fuse H10 0 (by decide)).mono ?_
  rintro e w11 ⟨rfl, H11, hq11⟩
  replace H11 : Lx w w11 b Ek.v6 g := H11
  have HG11 : Hid (Has w11 g (.cells (vb (Ek.Y.take 10 ++ Ek.X.drop 10)).toArray 113 (0, 0))) := hq11.trans HG.out
  clear H10 HG hq11
  go_wp2_with fail
  refine (filled_len w11 121 512 0 rfl).mono ?_
  rintro e w12 F
  have ef := F.1
  subst ef
  have CC := lx_write H11 1 _ _ w11.heap.size (Nat.le_refl _) w12 F.2.2.1 (F.sl (by decide)) (fun g off spot len cap e => by injection e with e1 _ _; injection e1 with e1; injection e1 with e1 _ _; omega) (show Ek.v6.used < 1000000 by rw [Ek.v6_p.2.2.2.2]; decide)
  rw [show Ek.writeE Ek.v6 1 (Ek.fil 121 512) = 6 from Ek.v7_is.2] at CC
  have HG12 : Hid (Has w12 g (.cells (vb (Ek.Y.take 10 ++ Ek.X.drop 10)).toArray 113 (0, 0))) := HG11.out.later F.2.2.1
  clear F H11 HG11
  go_wp2_with fail
  refine CC.mono ?_
  clear CC
  rintro e w13 ⟨rfl, H13, hq13⟩
  replace H13 : Lx w w13 b Ek.v7 g := H13
  have HG13 := Lib.hid (hq13.trans HG12.out)
  clear HG12 hq13
  go_wp2_with fail
  refine (lv_read H13.lv 1).mono ?_
  rintro e w14 ⟨hb14, hr⟩
  rcases hr with ⟨_, rfl⟩ | ⟨hr, _⟩
  rotate_left
  · rw [show Ek.readE Ek.v7 1 = 6 from Ek.readE7] at hr; exact absurd hr (by decide)
  have e7 : Ek.readE Ek.v7 1 = 6 := Ek.readE7
  rw [e7]
  have H14 := Lib.hid (H13.later hb14)
  have HG14 := Lib.hid (Has.later HG13.out hb14)
  clear H13 HG13 hb14 e7
  go_wp2_with fail
  obtain ⟨S1, hS1⟩ : ∃ S1, S1 = strB (Ek.Y.take 10 ++ Ek.X.drop 10) := ⟨_, rfl⟩
  obtain ⟨SY, hSY⟩ : ∃ SY, SY = strB (Ek.Y.take 10) := ⟨_, rfl⟩
  obtain ⟨SX, hSX⟩ : ∃ SX, SX = strB (Ek.X.drop 10) := ⟨_, rfl⟩
  have HSUM : Hid (SY ++ SX = S1) := by show _ = _; rw [hS1, hSY, hSX, strB_append]
  have HZ : Hid (SY.size = 10 ∧ SX.size = 502) := ⟨by rw [hSY, strB_size, List.length_take, Ek.Y_length]; decide, by rw [hSX, strB_size, List.length_drop, Ek.X_length]⟩
  have HS1 := Lib.hid hS1
  have HSY := Lib.hid hSY
  have HSX := Lib.hid hSX
  have KSL : Hid (∀ w', Below w14.heap.size w14 w' → Sl w' (.slice (some ⟨g, 0, none⟩) 512 512) (Ek.Y.take 10 ++ Ek.X.drop 10)) := fun w' hb => has_sl (HG14.out.later hb) (fun x hx => by
    rcases List.mem_append.1 hx with h | h
    · exact Ek.fil_small _ _ x (List.mem_of_mem_take h)
    · exact Ek.fil_small _ _ x (List.mem_of_mem_drop h)) (by rw [List.length_append, List.length_take, List.length_drop, Ek.X_length, Ek.Y_length]; decide) 512 512 (by rw [List.length_append, List.length_take, List.length_drop, Ek.X_length, Ek.Y_length]; decide)
  have K0 : Hid (Below w14.heap.size w14 w14.drew) := below_drewN (Below.refl _ _) 1
  clear hS1 hSY hSX
  refine wp_region_held_drew (S := fun wx => Below w14.heap.size w14 wx) (by kernel_rfl) K0.out (fun _ => ?_)
  change wpAnyH _ _ _ _ _ 36 (Array.replicate 36 false) _ _
  refine wpAnyH_take (i := 0) (v := ?_) rfl (by kernel_rfl) (by kernel_rfl) (by kernel_rfl) (fun _ _ _ h => h) (Or.inl ⟨rfl, ?hy0⟩) K0.out ?_
  case hy0 => intro w' hw'; clear hw'; go_simp; first | done | rfl
  try simp only [Act.put, List.getElem_toArray, List.getElem_cons_zero, List.setIfInBounds_toArray, List.set_cons_zero, List.set_cons_succ]
  refine wpAnyH_take (i := 1) (v := ?_) rfl (by kernel_rfl) (by kernel_rfl) (by kernel_rfl) (fun _ _ _ h => h) (Or.inl ⟨rfl, ?hy1⟩) K0.out ?_
  case hy1 => intro w' hw'; clear hw'; go_simp; first | done | rfl
  try simp only [Act.put, List.getElem_toArray, List.getElem_cons_zero, List.getElem_cons_succ, List.setIfInBounds_toArray, List.set_cons_zero, List.set_cons_succ]
  refine wpAnyH_take (i := 2) (v := ?_) rfl (by kernel_rfl) (by kernel_rfl) (by kernel_rfl) (fun _ _ _ h => h) (Or.inl ⟨rfl, ?hy2⟩) K0.out ?_
  case hy2 => intro w' hw'; clear hw'; go_simp; first | done | rfl
  try simp only [Act.put, List.getElem_toArray, List.getElem_cons_zero, List.getElem_cons_succ, List.setIfInBounds_toArray, List.set_cons_zero, List.set_cons_succ]
  refine wpAnyH_take (i := 3) (v := ?_) rfl (by kernel_rfl) (by kernel_rfl) (by kernel_rfl) (fun _ _ _ h => h) (Or.inl ⟨rfl, ?hy3⟩) K0.out ?_
  case hy3 => intro w' hw'; clear hw'; go_simp; first | done | rfl
  try simp only [Act.put, List.getElem_toArray, List.getElem_cons_zero, List.getElem_cons_succ, List.setIfInBounds_toArray, List.set_cons_zero, List.set_cons_succ]
  refine wpAnyH_take (i := 4) (v := ?_) rfl (by kernel_rfl) (by kernel_rfl) (by kernel_rfl) (fun _ _ _ h => h) (Or.inl ⟨rfl, ?hy4⟩) K0.out ?_
  case hy4 => intro w' hw'; have hc := string_of w' _ _ _ _ S1 (KSL.out w' hw') HS1; clear hw'; go_simp; first | done | rfl
  try simp only [Act.put, List.getElem_toArray, List.getElem_cons_zero, List.getElem_cons_succ, List.setIfInBounds_toArray, List.set_cons_zero, List.set_cons_succ]
  refine wpAnyH_ready (rs := [5]) (by kernel_rfl) (by simp) ?_
  refine AllReadyH.cons rfl (fun K hK => ?_) AllReadyH.nil
  go_simp
  refine (filled_len w14.drew 121 512 0 rfl).mono ?_
  rintro e wA F
  have ef := F.1
  subst ef
  dsimp only
  have KA : Hid (Below w14.heap.size w14 wA) := (below_drewN (Below.refl _ _) 1).trans F.2.2.1
  have SA5 : Hid (Sl wA (.slice (some ⟨w14.heap.size, 0, none⟩) 10 512) (Ek.Y.take 10)) := (F.sl (by decide)).take 10 (by decide)
  clear F
  refine hK.out _ _ KA.out (fun _ => ?_)
  clear hK K
  try simp only [Act.put, List.getElem_toArray, List.getElem_cons_zero, List.getElem_cons_succ, List.setIfInBounds_toArray, List.set_cons_zero, List.set_cons_succ]
  refine wpAnyH_take (i := 6) (v := ?_) rfl (by kernel_rfl) (by kernel_rfl) (by kernel_rfl) (fun _ _ _ h => h) (Or.inl ⟨rfl, ?hy6⟩) KA.out ?_
  case hy6 => intro w' hw'; clear hw'; go_simp; first | done | rfl
  try simp only [Act.put, List.getElem_toArray, List.getElem_cons_zero, List.getElem_cons_succ, List.setIfInBounds_toArray, List.set_cons_zero, List.set_cons_succ]
  refine wpAnyH_ready (rs := [7, 8]) (by kernel_rfl) (by simp) ?_
  refine AllReadyH.cons rfl (fun K hK => ?_) (AllReadyH.cons rfl (fun K hK => ?_) AllReadyH.nil)
  · have hc := string_of _ _ _ _ _ SY SA5.out HSY
    go_simp
    clear hc
    refine hK.out _ _ KA.out (fun _ => ?_)
    clear hK K
    try simp only [Act.put, List.getElem_toArray, List.getElem_cons_zero, List.getElem_cons_succ, List.setIfInBounds_toArray, List.set_cons_zero, List.set_cons_succ]
    refine wpAnyH_ready (rs := [8]) (by kernel_rfl) (by simp) ?_
    refine AllReadyH.cons rfl (fun K hK => ?_) AllReadyH.nil
    go_simp
    refine (filled_len wA 120 512 0 rfl).mono ?_
    rintro e wB F
    have ef := F.1
    subst ef
    dsimp only
    have KB : Hid (Below w14.heap.size w14 wB) := KA.out.trans (F.2.2.1.mono KA.out.size)
    have SB5 := Lib.hid (SA5.out.later F.2.2.1)
    have SB8 := Lib.hid (bytesAt.from F.2.1 (Ek.fil_small _ _) (by rw [Ek.fil_length]; decide) 10 502 502 (by rw [Ek.fil_length]))
    clear F
    refine hK.out _ _ KB.out (fun _ => ?_)
    clear hK K
    try simp only [Act.put, List.getElem_toArray, List.getElem_cons_zero, List.getElem_cons_succ, List.setIfInBounds_toArray, List.set_cons_zero, List.set_cons_succ]
    refine wpAnyH_take (i := 9) (v := ?_) rfl (by kernel_rfl) (by kernel_rfl) (by kernel_rfl) (fun _ _ _ h => h) (Or.inl ⟨rfl, ?hy9⟩) KB.out ?_
    case hy9 => intro w' hw'; clear hw'; go_simp; first | done | rfl
    try simp only [Act.put, List.getElem_toArray, List.getElem_cons_zero, List.getElem_cons_succ, List.setIfInBounds_toArray, List.set_cons_zero, List.set_cons_succ]
    refine wpAnyH_ready (rs := [10]) (by kernel_rfl) (by simp) ?_
    refine AllReadyH.cons rfl (fun K hK => ?_) AllReadyH.nil
    have hc := string_of _ _ _ _ _ SX SB8.out HSX
    go_simp
    clear hc
    refine hK.out _ _ KB.out (fun _ => ?_)
    clear hK K
    try simp only [Act.put, List.getElem_toArray, List.getElem_cons_zero, List.getElem_cons_succ, List.setIfInBounds_toArray, List.set_cons_zero, List.set_cons_succ]
    have HB := Lib.hid (H14.out.later KB.out)
    have hsum := HSUM.out
    obtain ⟨hz1, hz2⟩ := HZ.out
    refine wpAnyH_take (i := 11) (v := ?_) rfl (by kernel_rfl) (by kernel_rfl) (by kernel_rfl) (fun _ _ _ h => h) (Or.inl ⟨rfl, ?hy11⟩) KB.out ?_
    case hy11 => intro w' hw'; clear hw'; go_simp; first | done | rfl
    try simp only [Act.put, List.getElem_toArray, List.getElem_cons_zero, List.getElem_cons_succ, List.setIfInBounds_toArray, List.set_cons_zero, List.set_cons_succ]
    refine wpAnyH_take (i := 12) (v := ?_) rfl (by kernel_rfl) (by kernel_rfl) (by kernel_rfl) (fun _ _ _ h => h) (Or.inl ⟨rfl, ?hy12⟩) KB.out ?_
    case hy12 => intro w' hw'; clear hw'; go_simp; first | done | rfl
    try simp only [Act.put, List.getElem_toArray, List.getElem_cons_zero, List.getElem_cons_succ, List.setIfInBounds_toArray, List.set_cons_zero, List.set_cons_succ]
    refine wpAnyH_take (i := 13) (v := ?_) rfl (by kernel_rfl) (by kernel_rfl) (by kernel_rfl) (fun _ _ _ h => h) (Or.inl ⟨rfl, ?hy13⟩) KB.out ?_
    case hy13 => intro w' hw'; clear hw'; go_simp; first | done | rfl
    try simp only [Act.put, List.getElem_toArray, List.getElem_cons_zero, List.getElem_cons_succ, List.setIfInBounds_toArray, List.set_cons_zero, List.set_cons_succ]
    refine wpAnyH_take (i := 14) (v := ?_) rfl (by kernel_rfl) (by kernel_rfl) (by kernel_rfl) (fun _ _ _ h => h) (Or.inl ⟨rfl, ?hy14⟩) KB.out ?_
    case hy14 => intro w' hw'; clear hw'; go_simp; first | done | rfl
    try simp only [Act.put, List.getElem_toArray, List.getElem_cons_zero, List.getElem_cons_succ, List.setIfInBounds_toArray, List.set_cons_zero, List.set_cons_succ]
    refine wpAnyH_take (i := 15) (v := ?_) rfl (by kernel_rfl) (by kernel_rfl) (by kernel_rfl) (fun _ _ _ h => h) (Or.inl ⟨rfl, ?hy15⟩) KB.out ?_
    case hy15 => intro w' hw'; clear hw'; go_simp; first | done | rfl
    try simp only [Act.put, List.getElem_toArray, List.getElem_cons_zero, List.getElem_cons_succ, List.setIfInBounds_toArray, List.set_cons_zero, List.set_cons_succ]
    refine wpAnyH_take (i := 16) (v := ?_) rfl (by kernel_rfl) (by kernel_rfl) (by kernel_rfl) (fun _ _ _ h => h) (Or.inl ⟨rfl, ?hy16⟩) KB.out ?_
    case hy16 => intro w' hw'; clear hw'; go_simp; first | done | rfl
    try simp only [Act.put, List.getElem_toArray, List.getElem_cons_zero, List.getElem_cons_succ, List.setIfInBounds_toArray, List.set_cons_zero, List.set_cons_succ]
    refine wpAnyH_take (i := 17) (v := ?_) rfl (by kernel_rfl) (by kernel_rfl) (by kernel_rfl) (fun _ _ _ h => h) (Or.inl ⟨rfl, ?hy17⟩) KB.out ?_
    case hy17 => intro w' hw'; clear hw'; go_simp; first | done | rfl
    try simp only [Act.put, List.getElem_toArray, List.getElem_cons_zero, List.getElem_cons_succ, List.setIfInBounds_toArray, List.set_cons_zero, List.set_cons_succ]
    refine wpAnyH_take (i := 18) (v := ?_) rfl (by kernel_rfl) (by kernel_rfl) (by kernel_rfl) (fun _ _ _ h => h) (Or.inl ⟨rfl, ?hy18⟩) KB.out ?_
    case hy18 => intro w' hw'; clear hw'; go_simp; first | done | rfl
    try simp only [Act.put, List.getElem_toArray, List.getElem_cons_zero, List.getElem_cons_succ, List.setIfInBounds_toArray, List.set_cons_zero, List.set_cons_succ]
    refine wpAnyH_take (i := 19) (v := ?_) rfl (by kernel_rfl) (by kernel_rfl) (by kernel_rfl) (fun _ _ _ h => h) (Or.inl ⟨rfl, ?hy19⟩) KB.out ?_
    case hy19 => intro w' hw'; clear hw'; go_simp; first | done | rfl
    try simp only [Act.put, List.getElem_toArray, List.getElem_cons_zero, List.getElem_cons_succ, List.setIfInBounds_toArray, List.set_cons_zero, List.set_cons_succ]
    refine wpAnyH_take (i := 20) (v := ?_) rfl (by kernel_rfl) (by kernel_rfl) (by kernel_rfl) (fun _ _ _ h => h) (Or.inl ⟨rfl, ?hy20⟩) KB.out ?_
    case hy20 => intro w' hw'; clear hw'; go_simp; first | done | rfl
    try simp only [Act.put, List.getElem_toArray, List.getElem_cons_zero, List.getElem_cons_succ, List.setIfInBounds_toArray, List.set_cons_zero, List.set_cons_succ]
    refine wpAnyH_take (i := 21) (v := ?_) rfl (by kernel_rfl) (by kernel_rfl) (by kernel_rfl) (fun _ _ _ h => h) (Or.inl ⟨rfl, ?hy21⟩) KB.out ?_
    case hy21 => intro w' hw'; clear hw'; go_simp; first | done | rfl
    try simp only [Act.put, List.getElem_toArray, List.getElem_cons_zero, List.getElem_cons_succ, List.setIfInBounds_toArray, List.set_cons_zero, List.set_cons_succ]
    refine wpAnyH_take (i := 22) (v := ?_) rfl (by kernel_rfl) (by kernel_rfl) (by kernel_rfl) (fun _ _ _ h => h) (Or.inl ⟨rfl, ?hy22⟩) KB.out ?_
    case hy22 => intro w' hw'; clear hw'; go_simp; first | done | rfl
    try simp only [Act.put, List.getElem_toArray, List.getElem_cons_zero, List.getElem_cons_succ, List.setIfInBounds_toArray, List.set_cons_zero, List.set_cons_succ]
    refine wpAnyH_take (i := 23) (v := ?_) rfl (by kernel_rfl) (by kernel_rfl) (by kernel_rfl) (fun _ _ _ h => h) (Or.inl ⟨rfl, ?hy23⟩) KB.out ?_
    case hy23 => intro w' hw'; clear hw'; go_simp; first | done | rfl
    try simp only [Act.put, List.getElem_toArray, List.getElem_cons_zero, List.getElem_cons_succ, List.setIfInBounds_toArray, List.set_cons_zero, List.set_cons_succ]
    refine wpAnyH_ready (rs := [24]) (by kernel_rfl) (by simp) ?_
    refine AllReadyH.cons rfl (fun K hK => ?_) AllReadyH.nil
    have hl7 : (Ek.v7.loose.length : Int) = 1 := by rw [Ek.v7_p.2.2]; rfl
    go_simp
    refine (lv_loose HB.out.lv).mono ?_
    rintro e w' ⟨rfl, rfl⟩
    dsimp only
    rw [hl7]
    clear hl7
    refine hK.out _ _ KB.out (fun _ => ?_)
    clear hK K
    try simp only [Act.put, List.getElem_toArray, List.getElem_cons_zero, List.getElem_cons_succ, List.setIfInBounds_toArray, List.set_cons_zero, List.set_cons_succ]
    refine wpAnyH_take (i := 25) (v := ?_) rfl (by kernel_rfl) (by kernel_rfl) (by kernel_rfl) (fun _ _ _ h => h) (Or.inl ⟨rfl, ?hy25⟩) KB.out ?_
    case hy25 => intro w' hw'; clear hw'; go_simp; first | done | rfl
    try simp only [Act.put, List.getElem_toArray, List.getElem_cons_zero, List.getElem_cons_succ, List.setIfInBounds_toArray, List.set_cons_zero, List.set_cons_succ]
    refine wpAnyH_take (i := 26) (v := ?_) rfl (by kernel_rfl) (by kernel_rfl) (by kernel_rfl) (fun _ _ _ h => h) (Or.inl ⟨rfl, ?hy26⟩) KB.out ?_
    case hy26 => intro w' hw'; clear hw'; go_simp; first | done | rfl
    try simp only [Act.put, List.getElem_toArray, List.getElem_cons_zero, List.getElem_cons_succ, List.setIfInBounds_toArray, List.set_cons_zero, List.set_cons_succ]
    refine wpAnyH_take (i := 27) (v := ?_) rfl (by kernel_rfl) (by kernel_rfl) (by kernel_rfl) (fun _ _ _ h => h) (Or.inl ⟨rfl, ?hy27⟩) KB.out ?_
    case hy27 => intro w' hw'; clear hw'; go_simp; first | done | rfl
    try simp only [Act.put, List.getElem_toArray, List.getElem_cons_zero, List.getElem_cons_succ, List.setIfInBounds_toArray, List.set_cons_zero, List.set_cons_succ]
    refine wpAnyH_take (i := 28) (v := ?_) rfl (by kernel_rfl) (by kernel_rfl) (by kernel_rfl) (fun _ _ _ h => h) (Or.inl ⟨rfl, ?hy28⟩) KB.out ?_
    case hy28 => intro w' hw'; clear hw'; go_simp; first | done | rfl
    try simp only [Act.put, List.getElem_toArray, List.getElem_cons_zero, List.getElem_cons_succ, List.setIfInBounds_toArray, List.set_cons_zero, List.set_cons_succ]
    refine wpAnyH_ready (rs := [29]) (by kernel_rfl) (by simp) ?_
    refine AllReadyH.cons rfl (fun K hK => ?_) AllReadyH.nil
    have hl7 : Ek.v7.dark = true := Ek.v7_p.2.1
    go_simp
    refine (lv_dark HB.out.lv).mono ?_
    rintro e w' ⟨rfl, rfl⟩
    dsimp only
    rw [hl7]
    clear hl7
    refine hK.out _ _ KB.out (fun _ => ?_)
    clear hK K
    try simp only [Act.put, List.getElem_toArray, List.getElem_cons_zero, List.getElem_cons_succ, List.setIfInBounds_toArray, List.set_cons_zero, List.set_cons_succ]
    refine wpAnyH_take (i := 30) (v := ?_) rfl (by kernel_rfl) (by kernel_rfl) (by kernel_rfl) (fun _ _ _ h => h) (Or.inl ⟨rfl, ?hy30⟩) KB.out ?_
    case hy30 => intro w' hw'; clear hw'; go_simp; first | done | rfl
    try simp only [Act.put, List.getElem_toArray, List.getElem_cons_zero, List.getElem_cons_succ, List.setIfInBounds_toArray, List.set_cons_zero, List.set_cons_succ]
    refine wpAnyH_take (i := 31) (v := ?_) rfl (by kernel_rfl) (by kernel_rfl) (by kernel_rfl) (fun _ _ _ h => h) (Or.inl ⟨rfl, ?hy31⟩) KB.out ?_
    case hy31 => intro w' hw'; clear hw'; go_simp; first | done | rfl
    try simp only [Act.put, List.getElem_toArray, List.getElem_cons_zero, List.getElem_cons_succ, List.setIfInBounds_toArray, List.set_cons_zero, List.set_cons_succ]
    refine wpAnyH_take (i := 32) (v := ?_) rfl (by kernel_rfl) (by kernel_rfl) (by kernel_rfl) (fun _ _ _ h => h) (Or.inl ⟨rfl, ?hy32⟩) KB.out ?_
    case hy32 => intro w' hw'; clear hw'; go_simp; first | done | rfl
    try simp only [Act.put, List.getElem_toArray, List.getElem_cons_zero, List.getElem_cons_succ, List.setIfInBounds_toArray, List.set_cons_zero, List.set_cons_succ]
    refine wpAnyH_take (i := 33) (v := ?_) rfl (by kernel_rfl) (by kernel_rfl) (by kernel_rfl) (fun _ _ _ h => h) (Or.inl ⟨rfl, ?hy33⟩) KB.out ?_
    case hy33 => intro w' hw'; clear hw'; go_simp; first | done | rfl
    try simp only [Act.put, List.getElem_toArray, List.getElem_cons_zero, List.getElem_cons_succ, List.setIfInBounds_toArray, List.set_cons_zero, List.set_cons_succ]
    refine wpAnyH_take (i := 34) (v := ?_) rfl (by kernel_rfl) (by kernel_rfl) (by kernel_rfl) (fun _ _ _ h => h) (Or.inl ⟨rfl, ?hy34⟩) KB.out ?_
    case hy34 => intro w' hw'; clear hw'; go_simp; first | done | rfl
    try simp only [Act.put, List.getElem_toArray, List.getElem_cons_zero, List.getElem_cons_succ, List.setIfInBounds_toArray, List.set_cons_zero, List.set_cons_succ]
    refine wpAnyH_take (i := 35) (v := ?_) rfl (by kernel_rfl) (by kernel_rfl) (by kernel_rfl) (fun _ _ _ h => h) (Or.inl ⟨rfl, ?hy35⟩) KB.out ?_
    case hy35 => intro w' hw'; clear hw'; go_simp; first | done | rfl
    try simp only [Act.put, List.getElem_toArray, List.getElem_cons_zero, List.getElem_cons_succ, List.setIfInBounds_toArray, List.set_cons_zero]
    refine wpAnyH_done (by kernel_rfl) ?_ _
    go_wp2_with fail
    go_ret
    exact ⟨rfl, HB.out.lv.below⟩
  · go_simp
    refine (filled_len wA 120 512 0 rfl).mono ?_
    rintro e wB F
    have ef := F.1
    subst ef
    dsimp only
    have KB : Hid (Below w14.heap.size w14 wB) := KA.out.trans (F.2.2.1.mono KA.out.size)
    have SB5 := Lib.hid (SA5.out.later F.2.2.1)
    have SB8 := Lib.hid (bytesAt.from F.2.1 (Ek.fil_small _ _) (by rw [Ek.fil_length]; decide) 10 502 502 (by rw [Ek.fil_length]))
    clear F
    refine hK.out _ _ KB.out (fun _ => ?_)
    clear hK K
    try simp only [Act.put, List.getElem_toArray, List.getElem_cons_zero, List.getElem_cons_succ, List.setIfInBounds_toArray, List.set_cons_zero, List.set_cons_succ]
    refine wpAnyH_take (i := 9) (v := ?_) rfl (by kernel_rfl) (by kernel_rfl) (by kernel_rfl) (fun _ _ _ h => h) (Or.inl ⟨rfl, ?hy9⟩) KB.out ?_
    case hy9 => intro w' hw'; clear hw'; go_simp; first | done | rfl
    try simp only [Act.put, List.getElem_toArray, List.getElem_cons_zero, List.getElem_cons_succ, List.setIfInBounds_toArray, List.set_cons_zero, List.set_cons_succ]
    refine wpAnyH_ready (rs := [7, 10]) (by kernel_rfl) (by simp) ?_
    refine AllReadyH.cons rfl (fun K hK => ?_) (AllReadyH.cons rfl (fun K hK => ?_) AllReadyH.nil)
    · have hc := string_of _ _ _ _ _ SY SB5.out HSY
      go_simp
      clear hc
      refine hK.out _ _ KB.out (fun _ => ?_)
      clear hK K
      try simp only [Act.put, List.getElem_toArray, List.getElem_cons_zero, List.getElem_cons_succ, List.setIfInBounds_toArray, List.set_cons_zero, List.set_cons_succ]
      refine wpAnyH_ready (rs := [10]) (by kernel_rfl) (by simp) ?_
      refine AllReadyH.cons rfl (fun K hK => ?_) AllReadyH.nil
      have hc := string_of _ _ _ _ _ SX SB8.out HSX
      go_simp
      clear hc
      refine hK.out _ _ KB.out (fun _ => ?_)
      clear hK K
      try simp only [Act.put, List.getElem_toArray, List.getElem_cons_zero, List.getElem_cons_succ, List.setIfInBounds_toArray, List.set_cons_zero, List.set_cons_succ]
      have HB := Lib.hid (H14.out.later KB.out)
      have hsum := HSUM.out
      obtain ⟨hz1, hz2⟩ := HZ.out
      refine wpAnyH_take (i := 11) (v := ?_) rfl (by kernel_rfl) (by kernel_rfl) (by kernel_rfl) (fun _ _ _ h => h) (Or.inl ⟨rfl, ?hy11⟩) KB.out ?_
      case hy11 => intro w' hw'; clear hw'; go_simp; first | done | rfl
      try simp only [Act.put, List.getElem_toArray, List.getElem_cons_zero, List.getElem_cons_succ, List.setIfInBounds_toArray, List.set_cons_zero, List.set_cons_succ]
      refine wpAnyH_take (i := 12) (v := ?_) rfl (by kernel_rfl) (by kernel_rfl) (by kernel_rfl) (fun _ _ _ h => h) (Or.inl ⟨rfl, ?hy12⟩) KB.out ?_
      case hy12 => intro w' hw'; clear hw'; go_simp; first | done | rfl
      try simp only [Act.put, List.getElem_toArray, List.getElem_cons_zero, List.getElem_cons_succ, List.setIfInBounds_toArray, List.set_cons_zero, List.set_cons_succ]
      refine wpAnyH_take (i := 13) (v := ?_) rfl (by kernel_rfl) (by kernel_rfl) (by kernel_rfl) (fun _ _ _ h => h) (Or.inl ⟨rfl, ?hy13⟩) KB.out ?_
      case hy13 => intro w' hw'; clear hw'; go_simp; first | done | rfl
      try simp only [Act.put, List.getElem_toArray, List.getElem_cons_zero, List.getElem_cons_succ, List.setIfInBounds_toArray, List.set_cons_zero, List.set_cons_succ]
      refine wpAnyH_take (i := 14) (v := ?_) rfl (by kernel_rfl) (by kernel_rfl) (by kernel_rfl) (fun _ _ _ h => h) (Or.inl ⟨rfl, ?hy14⟩) KB.out ?_
      case hy14 => intro w' hw'; clear hw'; go_simp; first | done | rfl
      try simp only [Act.put, List.getElem_toArray, List.getElem_cons_zero, List.getElem_cons_succ, List.setIfInBounds_toArray, List.set_cons_zero, List.set_cons_succ]
      refine wpAnyH_take (i := 15) (v := ?_) rfl (by kernel_rfl) (by kernel_rfl) (by kernel_rfl) (fun _ _ _ h => h) (Or.inl ⟨rfl, ?hy15⟩) KB.out ?_
      case hy15 => intro w' hw'; clear hw'; go_simp; first | done | rfl
      try simp only [Act.put, List.getElem_toArray, List.getElem_cons_zero, List.getElem_cons_succ, List.setIfInBounds_toArray, List.set_cons_zero, List.set_cons_succ]
      refine wpAnyH_take (i := 16) (v := ?_) rfl (by kernel_rfl) (by kernel_rfl) (by kernel_rfl) (fun _ _ _ h => h) (Or.inl ⟨rfl, ?hy16⟩) KB.out ?_
      case hy16 => intro w' hw'; clear hw'; go_simp; first | done | rfl
      try simp only [Act.put, List.getElem_toArray, List.getElem_cons_zero, List.getElem_cons_succ, List.setIfInBounds_toArray, List.set_cons_zero, List.set_cons_succ]
      refine wpAnyH_take (i := 17) (v := ?_) rfl (by kernel_rfl) (by kernel_rfl) (by kernel_rfl) (fun _ _ _ h => h) (Or.inl ⟨rfl, ?hy17⟩) KB.out ?_
      case hy17 => intro w' hw'; clear hw'; go_simp; first | done | rfl
      try simp only [Act.put, List.getElem_toArray, List.getElem_cons_zero, List.getElem_cons_succ, List.setIfInBounds_toArray, List.set_cons_zero, List.set_cons_succ]
      refine wpAnyH_take (i := 18) (v := ?_) rfl (by kernel_rfl) (by kernel_rfl) (by kernel_rfl) (fun _ _ _ h => h) (Or.inl ⟨rfl, ?hy18⟩) KB.out ?_
      case hy18 => intro w' hw'; clear hw'; go_simp; first | done | rfl
      try simp only [Act.put, List.getElem_toArray, List.getElem_cons_zero, List.getElem_cons_succ, List.setIfInBounds_toArray, List.set_cons_zero, List.set_cons_succ]
      refine wpAnyH_take (i := 19) (v := ?_) rfl (by kernel_rfl) (by kernel_rfl) (by kernel_rfl) (fun _ _ _ h => h) (Or.inl ⟨rfl, ?hy19⟩) KB.out ?_
      case hy19 => intro w' hw'; clear hw'; go_simp; first | done | rfl
      try simp only [Act.put, List.getElem_toArray, List.getElem_cons_zero, List.getElem_cons_succ, List.setIfInBounds_toArray, List.set_cons_zero, List.set_cons_succ]
      refine wpAnyH_take (i := 20) (v := ?_) rfl (by kernel_rfl) (by kernel_rfl) (by kernel_rfl) (fun _ _ _ h => h) (Or.inl ⟨rfl, ?hy20⟩) KB.out ?_
      case hy20 => intro w' hw'; clear hw'; go_simp; first | done | rfl
      try simp only [Act.put, List.getElem_toArray, List.getElem_cons_zero, List.getElem_cons_succ, List.setIfInBounds_toArray, List.set_cons_zero, List.set_cons_succ]
      refine wpAnyH_take (i := 21) (v := ?_) rfl (by kernel_rfl) (by kernel_rfl) (by kernel_rfl) (fun _ _ _ h => h) (Or.inl ⟨rfl, ?hy21⟩) KB.out ?_
      case hy21 => intro w' hw'; clear hw'; go_simp; first | done | rfl
      try simp only [Act.put, List.getElem_toArray, List.getElem_cons_zero, List.getElem_cons_succ, List.setIfInBounds_toArray, List.set_cons_zero, List.set_cons_succ]
      refine wpAnyH_take (i := 22) (v := ?_) rfl (by kernel_rfl) (by kernel_rfl) (by kernel_rfl) (fun _ _ _ h => h) (Or.inl ⟨rfl, ?hy22⟩) KB.out ?_
      case hy22 => intro w' hw'; clear hw'; go_simp; first | done | rfl
      try simp only [Act.put, List.getElem_toArray, List.getElem_cons_zero, List.getElem_cons_succ, List.setIfInBounds_toArray, List.set_cons_zero, List.set_cons_succ]
      refine wpAnyH_take (i := 23) (v := ?_) rfl (by kernel_rfl) (by kernel_rfl) (by kernel_rfl) (fun _ _ _ h => h) (Or.inl ⟨rfl, ?hy23⟩) KB.out ?_
      case hy23 => intro w' hw'; clear hw'; go_simp; first | done | rfl
      try simp only [Act.put, List.getElem_toArray, List.getElem_cons_zero, List.getElem_cons_succ, List.setIfInBounds_toArray, List.set_cons_zero, List.set_cons_succ]
      refine wpAnyH_ready (rs := [24]) (by kernel_rfl) (by simp) ?_
      refine AllReadyH.cons rfl (fun K hK => ?_) AllReadyH.nil
      have hl7 : (Ek.v7.loose.length : Int) = 1 := by rw [Ek.v7_p.2.2]; rfl
      go_simp
      refine (lv_loose HB.out.lv).mono ?_
      rintro e w' ⟨rfl, rfl⟩
      dsimp only
      rw [hl7]
      clear hl7
      refine hK.out _ _ KB.out (fun _ => ?_)
      clear hK K
      try simp only [Act.put, List.getElem_toArray, List.getElem_cons_zero, List.getElem_cons_succ, List.setIfInBounds_toArray, List.set_cons_zero, List.set_cons_succ]
      refine wpAnyH_take (i := 25) (v := ?_) rfl (by kernel_rfl) (by kernel_rfl) (by kernel_rfl) (fun _ _ _ h => h) (Or.inl ⟨rfl, ?hy25⟩) KB.out ?_
      case hy25 => intro w' hw'; clear hw'; go_simp; first | done | rfl
      try simp only [Act.put, List.getElem_toArray, List.getElem_cons_zero, List.getElem_cons_succ, List.setIfInBounds_toArray, List.set_cons_zero, List.set_cons_succ]
      refine wpAnyH_take (i := 26) (v := ?_) rfl (by kernel_rfl) (by kernel_rfl) (by kernel_rfl) (fun _ _ _ h => h) (Or.inl ⟨rfl, ?hy26⟩) KB.out ?_
      case hy26 => intro w' hw'; clear hw'; go_simp; first | done | rfl
      try simp only [Act.put, List.getElem_toArray, List.getElem_cons_zero, List.getElem_cons_succ, List.setIfInBounds_toArray, List.set_cons_zero, List.set_cons_succ]
      refine wpAnyH_take (i := 27) (v := ?_) rfl (by kernel_rfl) (by kernel_rfl) (by kernel_rfl) (fun _ _ _ h => h) (Or.inl ⟨rfl, ?hy27⟩) KB.out ?_
      case hy27 => intro w' hw'; clear hw'; go_simp; first | done | rfl
      try simp only [Act.put, List.getElem_toArray, List.getElem_cons_zero, List.getElem_cons_succ, List.setIfInBounds_toArray, List.set_cons_zero, List.set_cons_succ]
      refine wpAnyH_take (i := 28) (v := ?_) rfl (by kernel_rfl) (by kernel_rfl) (by kernel_rfl) (fun _ _ _ h => h) (Or.inl ⟨rfl, ?hy28⟩) KB.out ?_
      case hy28 => intro w' hw'; clear hw'; go_simp; first | done | rfl
      try simp only [Act.put, List.getElem_toArray, List.getElem_cons_zero, List.getElem_cons_succ, List.setIfInBounds_toArray, List.set_cons_zero, List.set_cons_succ]
      refine wpAnyH_ready (rs := [29]) (by kernel_rfl) (by simp) ?_
      refine AllReadyH.cons rfl (fun K hK => ?_) AllReadyH.nil
      have hl7 : Ek.v7.dark = true := Ek.v7_p.2.1
      go_simp
      refine (lv_dark HB.out.lv).mono ?_
      rintro e w' ⟨rfl, rfl⟩
      dsimp only
      rw [hl7]
      clear hl7
      refine hK.out _ _ KB.out (fun _ => ?_)
      clear hK K
      try simp only [Act.put, List.getElem_toArray, List.getElem_cons_zero, List.getElem_cons_succ, List.setIfInBounds_toArray, List.set_cons_zero, List.set_cons_succ]
      refine wpAnyH_take (i := 30) (v := ?_) rfl (by kernel_rfl) (by kernel_rfl) (by kernel_rfl) (fun _ _ _ h => h) (Or.inl ⟨rfl, ?hy30⟩) KB.out ?_
      case hy30 => intro w' hw'; clear hw'; go_simp; first | done | rfl
      try simp only [Act.put, List.getElem_toArray, List.getElem_cons_zero, List.getElem_cons_succ, List.setIfInBounds_toArray, List.set_cons_zero, List.set_cons_succ]
      refine wpAnyH_take (i := 31) (v := ?_) rfl (by kernel_rfl) (by kernel_rfl) (by kernel_rfl) (fun _ _ _ h => h) (Or.inl ⟨rfl, ?hy31⟩) KB.out ?_
      case hy31 => intro w' hw'; clear hw'; go_simp; first | done | rfl
      try simp only [Act.put, List.getElem_toArray, List.getElem_cons_zero, List.getElem_cons_succ, List.setIfInBounds_toArray, List.set_cons_zero, List.set_cons_succ]
      refine wpAnyH_take (i := 32) (v := ?_) rfl (by kernel_rfl) (by kernel_rfl) (by kernel_rfl) (fun _ _ _ h => h) (Or.inl ⟨rfl, ?hy32⟩) KB.out ?_
      case hy32 => intro w' hw'; clear hw'; go_simp; first | done | rfl
      try simp only [Act.put, List.getElem_toArray, List.getElem_cons_zero, List.getElem_cons_succ, List.setIfInBounds_toArray, List.set_cons_zero, List.set_cons_succ]
      refine wpAnyH_take (i := 33) (v := ?_) rfl (by kernel_rfl) (by kernel_rfl) (by kernel_rfl) (fun _ _ _ h => h) (Or.inl ⟨rfl, ?hy33⟩) KB.out ?_
      case hy33 => intro w' hw'; clear hw'; go_simp; first | done | rfl
      try simp only [Act.put, List.getElem_toArray, List.getElem_cons_zero, List.getElem_cons_succ, List.setIfInBounds_toArray, List.set_cons_zero, List.set_cons_succ]
      refine wpAnyH_take (i := 34) (v := ?_) rfl (by kernel_rfl) (by kernel_rfl) (by kernel_rfl) (fun _ _ _ h => h) (Or.inl ⟨rfl, ?hy34⟩) KB.out ?_
      case hy34 => intro w' hw'; clear hw'; go_simp; first | done | rfl
      try simp only [Act.put, List.getElem_toArray, List.getElem_cons_zero, List.getElem_cons_succ, List.setIfInBounds_toArray, List.set_cons_zero, List.set_cons_succ]
      refine wpAnyH_take (i := 35) (v := ?_) rfl (by kernel_rfl) (by kernel_rfl) (by kernel_rfl) (fun _ _ _ h => h) (Or.inl ⟨rfl, ?hy35⟩) KB.out ?_
      case hy35 => intro w' hw'; clear hw'; go_simp; first | done | rfl
      try simp only [Act.put, List.getElem_toArray, List.getElem_cons_zero, List.getElem_cons_succ, List.setIfInBounds_toArray, List.set_cons_zero]
      refine wpAnyH_done (by kernel_rfl) ?_ _
      go_wp2_with fail
      go_ret
      exact ⟨rfl, HB.out.lv.below⟩
    · have hc := string_of _ _ _ _ _ SX SB8.out HSX
      go_simp
      clear hc
      refine hK.out _ _ KB.out (fun _ => ?_)
      clear hK K
      try simp only [Act.put, List.getElem_toArray, List.getElem_cons_zero, List.getElem_cons_succ, List.setIfInBounds_toArray, List.set_cons_zero, List.set_cons_succ]
      refine wpAnyH_ready (rs := [7]) (by kernel_rfl) (by simp) ?_
      refine AllReadyH.cons rfl (fun K hK => ?_) AllReadyH.nil
      have hc := string_of _ _ _ _ _ SY SB5.out HSY
      go_simp
      clear hc
      refine hK.out _ _ KB.out (fun _ => ?_)
      clear hK K
      try simp only [Act.put, List.getElem_toArray, List.getElem_cons_zero, List.getElem_cons_succ, List.setIfInBounds_toArray, List.set_cons_zero, List.set_cons_succ]
      have HB := Lib.hid (H14.out.later KB.out)
      have hsum := HSUM.out
      obtain ⟨hz1, hz2⟩ := HZ.out
      refine wpAnyH_take (i := 11) (v := ?_) rfl (by kernel_rfl) (by kernel_rfl) (by kernel_rfl) (fun _ _ _ h => h) (Or.inl ⟨rfl, ?hy11⟩) KB.out ?_
      case hy11 => intro w' hw'; clear hw'; go_simp; first | done | rfl
      try simp only [Act.put, List.getElem_toArray, List.getElem_cons_zero, List.getElem_cons_succ, List.setIfInBounds_toArray, List.set_cons_zero, List.set_cons_succ]
      refine wpAnyH_take (i := 12) (v := ?_) rfl (by kernel_rfl) (by kernel_rfl) (by kernel_rfl) (fun _ _ _ h => h) (Or.inl ⟨rfl, ?hy12⟩) KB.out ?_
      case hy12 => intro w' hw'; clear hw'; go_simp; first | done | rfl
      try simp only [Act.put, List.getElem_toArray, List.getElem_cons_zero, List.getElem_cons_succ, List.setIfInBounds_toArray, List.set_cons_zero, List.set_cons_succ]
      refine wpAnyH_take (i := 13) (v := ?_) rfl (by kernel_rfl) (by kernel_rfl) (by kernel_rfl) (fun _ _ _ h => h) (Or.inl ⟨rfl, ?hy13⟩) KB.out ?_
      case hy13 => intro w' hw'; clear hw'; go_simp; first | done | rfl
      try simp only [Act.put, List.getElem_toArray, List.getElem_cons_zero, List.getElem_cons_succ, List.setIfInBounds_toArray, List.set_cons_zero, List.set_cons_succ]
      refine wpAnyH_take (i := 14) (v := ?_) rfl (by kernel_rfl) (by kernel_rfl) (by kernel_rfl) (fun _ _ _ h => h) (Or.inl ⟨rfl, ?hy14⟩) KB.out ?_
      case hy14 => intro w' hw'; clear hw'; go_simp; first | done | rfl
      try simp only [Act.put, List.getElem_toArray, List.getElem_cons_zero, List.getElem_cons_succ, List.setIfInBounds_toArray, List.set_cons_zero, List.set_cons_succ]
      refine wpAnyH_take (i := 15) (v := ?_) rfl (by kernel_rfl) (by kernel_rfl) (by kernel_rfl) (fun _ _ _ h => h) (Or.inl ⟨rfl, ?hy15⟩) KB.out ?_
      case hy15 => intro w' hw'; clear hw'; go_simp; first | done | rfl
      try simp only [Act.put, List.getElem_toArray, List.getElem_cons_zero, List.getElem_cons_succ, List.setIfInBounds_toArray, List.set_cons_zero, List.set_cons_succ]
      refine wpAnyH_take (i := 16) (v := ?_) rfl (by kernel_rfl) (by kernel_rfl) (by kernel_rfl) (fun _ _ _ h => h) (Or.inl ⟨rfl, ?hy16⟩) KB.out ?_
      case hy16 => intro w' hw'; clear hw'; go_simp; first | done | rfl
      try simp only [Act.put, List.getElem_toArray, List.getElem_cons_zero, List.getElem_cons_succ, List.setIfInBounds_toArray, List.set_cons_zero, List.set_cons_succ]
      refine wpAnyH_take (i := 17) (v := ?_) rfl (by kernel_rfl) (by kernel_rfl) (by kernel_rfl) (fun _ _ _ h => h) (Or.inl ⟨rfl, ?hy17⟩) KB.out ?_
      case hy17 => intro w' hw'; clear hw'; go_simp; first | done | rfl
      try simp only [Act.put, List.getElem_toArray, List.getElem_cons_zero, List.getElem_cons_succ, List.setIfInBounds_toArray, List.set_cons_zero, List.set_cons_succ]
      refine wpAnyH_take (i := 18) (v := ?_) rfl (by kernel_rfl) (by kernel_rfl) (by kernel_rfl) (fun _ _ _ h => h) (Or.inl ⟨rfl, ?hy18⟩) KB.out ?_
      case hy18 => intro w' hw'; clear hw'; go_simp; first | done | rfl
      try simp only [Act.put, List.getElem_toArray, List.getElem_cons_zero, List.getElem_cons_succ, List.setIfInBounds_toArray, List.set_cons_zero, List.set_cons_succ]
      refine wpAnyH_take (i := 19) (v := ?_) rfl (by kernel_rfl) (by kernel_rfl) (by kernel_rfl) (fun _ _ _ h => h) (Or.inl ⟨rfl, ?hy19⟩) KB.out ?_
      case hy19 => intro w' hw'; clear hw'; go_simp; first | done | rfl
      try simp only [Act.put, List.getElem_toArray, List.getElem_cons_zero, List.getElem_cons_succ, List.setIfInBounds_toArray, List.set_cons_zero, List.set_cons_succ]
      refine wpAnyH_take (i := 20) (v := ?_) rfl (by kernel_rfl) (by kernel_rfl) (by kernel_rfl) (fun _ _ _ h => h) (Or.inl ⟨rfl, ?hy20⟩) KB.out ?_
      case hy20 => intro w' hw'; clear hw'; go_simp; first | done | rfl
      try simp only [Act.put, List.getElem_toArray, List.getElem_cons_zero, List.getElem_cons_succ, List.setIfInBounds_toArray, List.set_cons_zero, List.set_cons_succ]
      refine wpAnyH_take (i := 21) (v := ?_) rfl (by kernel_rfl) (by kernel_rfl) (by kernel_rfl) (fun _ _ _ h => h) (Or.inl ⟨rfl, ?hy21⟩) KB.out ?_
      case hy21 => intro w' hw'; clear hw'; go_simp; first | done | rfl
      try simp only [Act.put, List.getElem_toArray, List.getElem_cons_zero, List.getElem_cons_succ, List.setIfInBounds_toArray, List.set_cons_zero, List.set_cons_succ]
      refine wpAnyH_take (i := 22) (v := ?_) rfl (by kernel_rfl) (by kernel_rfl) (by kernel_rfl) (fun _ _ _ h => h) (Or.inl ⟨rfl, ?hy22⟩) KB.out ?_
      case hy22 => intro w' hw'; clear hw'; go_simp; first | done | rfl
      try simp only [Act.put, List.getElem_toArray, List.getElem_cons_zero, List.getElem_cons_succ, List.setIfInBounds_toArray, List.set_cons_zero, List.set_cons_succ]
      refine wpAnyH_take (i := 23) (v := ?_) rfl (by kernel_rfl) (by kernel_rfl) (by kernel_rfl) (fun _ _ _ h => h) (Or.inl ⟨rfl, ?hy23⟩) KB.out ?_
      case hy23 => intro w' hw'; clear hw'; go_simp; first | done | rfl
      try simp only [Act.put, List.getElem_toArray, List.getElem_cons_zero, List.getElem_cons_succ, List.setIfInBounds_toArray, List.set_cons_zero, List.set_cons_succ]
      refine wpAnyH_ready (rs := [24]) (by kernel_rfl) (by simp) ?_
      refine AllReadyH.cons rfl (fun K hK => ?_) AllReadyH.nil
      have hl7 : (Ek.v7.loose.length : Int) = 1 := by rw [Ek.v7_p.2.2]; rfl
      go_simp
      refine (lv_loose HB.out.lv).mono ?_
      rintro e w' ⟨rfl, rfl⟩
      dsimp only
      rw [hl7]
      clear hl7
      refine hK.out _ _ KB.out (fun _ => ?_)
      clear hK K
      try simp only [Act.put, List.getElem_toArray, List.getElem_cons_zero, List.getElem_cons_succ, List.setIfInBounds_toArray, List.set_cons_zero, List.set_cons_succ]
      refine wpAnyH_take (i := 25) (v := ?_) rfl (by kernel_rfl) (by kernel_rfl) (by kernel_rfl) (fun _ _ _ h => h) (Or.inl ⟨rfl, ?hy25⟩) KB.out ?_
      case hy25 => intro w' hw'; clear hw'; go_simp; first | done | rfl
      try simp only [Act.put, List.getElem_toArray, List.getElem_cons_zero, List.getElem_cons_succ, List.setIfInBounds_toArray, List.set_cons_zero, List.set_cons_succ]
      refine wpAnyH_take (i := 26) (v := ?_) rfl (by kernel_rfl) (by kernel_rfl) (by kernel_rfl) (fun _ _ _ h => h) (Or.inl ⟨rfl, ?hy26⟩) KB.out ?_
      case hy26 => intro w' hw'; clear hw'; go_simp; first | done | rfl
      try simp only [Act.put, List.getElem_toArray, List.getElem_cons_zero, List.getElem_cons_succ, List.setIfInBounds_toArray, List.set_cons_zero, List.set_cons_succ]
      refine wpAnyH_take (i := 27) (v := ?_) rfl (by kernel_rfl) (by kernel_rfl) (by kernel_rfl) (fun _ _ _ h => h) (Or.inl ⟨rfl, ?hy27⟩) KB.out ?_
      case hy27 => intro w' hw'; clear hw'; go_simp; first | done | rfl
      try simp only [Act.put, List.getElem_toArray, List.getElem_cons_zero, List.getElem_cons_succ, List.setIfInBounds_toArray, List.set_cons_zero, List.set_cons_succ]
      refine wpAnyH_take (i := 28) (v := ?_) rfl (by kernel_rfl) (by kernel_rfl) (by kernel_rfl) (fun _ _ _ h => h) (Or.inl ⟨rfl, ?hy28⟩) KB.out ?_
      case hy28 => intro w' hw'; clear hw'; go_simp; first | done | rfl
      try simp only [Act.put, List.getElem_toArray, List.getElem_cons_zero, List.getElem_cons_succ, List.setIfInBounds_toArray, List.set_cons_zero, List.set_cons_succ]
      refine wpAnyH_ready (rs := [29]) (by kernel_rfl) (by simp) ?_
      refine AllReadyH.cons rfl (fun K hK => ?_) AllReadyH.nil
      have hl7 : Ek.v7.dark = true := Ek.v7_p.2.1
      go_simp
      refine (lv_dark HB.out.lv).mono ?_
      rintro e w' ⟨rfl, rfl⟩
      dsimp only
      rw [hl7]
      clear hl7
      refine hK.out _ _ KB.out (fun _ => ?_)
      clear hK K
      try simp only [Act.put, List.getElem_toArray, List.getElem_cons_zero, List.getElem_cons_succ, List.setIfInBounds_toArray, List.set_cons_zero, List.set_cons_succ]
      refine wpAnyH_take (i := 30) (v := ?_) rfl (by kernel_rfl) (by kernel_rfl) (by kernel_rfl) (fun _ _ _ h => h) (Or.inl ⟨rfl, ?hy30⟩) KB.out ?_
      case hy30 => intro w' hw'; clear hw'; go_simp; first | done | rfl
      try simp only [Act.put, List.getElem_toArray, List.getElem_cons_zero, List.getElem_cons_succ, List.setIfInBounds_toArray, List.set_cons_zero, List.set_cons_succ]
      refine wpAnyH_take (i := 31) (v := ?_) rfl (by kernel_rfl) (by kernel_rfl) (by kernel_rfl) (fun _ _ _ h => h) (Or.inl ⟨rfl, ?hy31⟩) KB.out ?_
      case hy31 => intro w' hw'; clear hw'; go_simp; first | done | rfl
      try simp only [Act.put, List.getElem_toArray, List.getElem_cons_zero, List.getElem_cons_succ, List.setIfInBounds_toArray, List.set_cons_zero, List.set_cons_succ]
      refine wpAnyH_take (i := 32) (v := ?_) rfl (by kernel_rfl) (by kernel_rfl) (by kernel_rfl) (fun _ _ _ h => h) (Or.inl ⟨rfl, ?hy32⟩) KB.out ?_
      case hy32 => intro w' hw'; clear hw'; go_simp; first | done | rfl
      try simp only [Act.put, List.getElem_toArray, List.getElem_cons_zero, List.getElem_cons_succ, List.setIfInBounds_toArray, List.set_cons_zero, List.set_cons_succ]
      refine wpAnyH_take (i := 33) (v := ?_) rfl (by kernel_rfl) (by kernel_rfl) (by kernel_rfl) (fun _ _ _ h => h) (Or.inl ⟨rfl, ?hy33⟩) KB.out ?_
      case hy33 => intro w' hw'; clear hw'; go_simp; first | done | rfl
      try simp only [Act.put, List.getElem_toArray, List.getElem_cons_zero, List.getElem_cons_succ, List.setIfInBounds_toArray, List.set_cons_zero, List.set_cons_succ]
      refine wpAnyH_take (i := 34) (v := ?_) rfl (by kernel_rfl) (by kernel_rfl) (by kernel_rfl) (fun _ _ _ h => h) (Or.inl ⟨rfl, ?hy34⟩) KB.out ?_
      case hy34 => intro w' hw'; clear hw'; go_simp; first | done | rfl
      try simp only [Act.put, List.getElem_toArray, List.getElem_cons_zero, List.getElem_cons_succ, List.setIfInBounds_toArray, List.set_cons_zero, List.set_cons_succ]
      refine wpAnyH_take (i := 35) (v := ?_) rfl (by kernel_rfl) (by kernel_rfl) (by kernel_rfl) (fun _ _ _ h => h) (Or.inl ⟨rfl, ?hy35⟩) KB.out ?_
      case hy35 => intro w' hw'; clear hw'; go_simp; first | done | rfl
      try simp only [Act.put, List.getElem_toArray, List.getElem_cons_zero, List.getElem_cons_succ, List.setIfInBounds_toArray, List.set_cons_zero]
      refine wpAnyH_done (by kernel_rfl) ?_ _
      go_wp2_with fail
      go_ret
      exact ⟨rfl, HB.out.lv.below⟩
end Go.Proofs.Ytillckjohlbaiaa
