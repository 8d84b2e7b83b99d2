/- Contracts of slices.stableCmpFunc and SortStableFunc at int, and of huff.sorted. -/
import Derived.Test.YtedbonnejgpjeaaLsym3
namespace Go.Proofs.Ytedbonnejgpjeaa
open Go.RowKit

/-- Sorted within each block of bs. -/
def Blk (kf e : Nat → Nat) (bs lo hi : Nat) : Prop := ∀ i j, lo ≤ i → i < j → j < hi → i / bs = j / bs → kf (e i) ≤ kf (e j)

theorem Blk.srt {kf e : Nat → Nat} {bs lo hi a b q : Nat} (h : Blk kf e bs lo hi) (hq : a = q * bs) (hlo : lo ≤ a) (hb : b ≤ a + bs) (hhi : b ≤ hi) : St.Srt kf e a b := by
  intro i j h1 h2 h3
  refine h i j (by omega) h2 (by omega) ?_
  rw [Nat.div_eq_of_lt_le (k := q) (m := i) (by omega) (by rw [Nat.succ_mul]; omega), Nat.div_eq_of_lt_le (k := q) (m := j) (by omega) (by rw [Nat.succ_mul]; omega)]
theorem Blk.add {kf e e' : Nat → Nat} {bs a b q : Nat} (h : Blk kf e bs 0 a) (hbs : 0 < bs) (hq : a = q * bs) (hsw : St.Swaps a b e e') (hs : St.Srt kf e' a b) : Blk kf e' bs 0 b := by
  intro i j h1 h2 h3 h4
  by_cases hj : j < a
  · rw [hsw.out i (by omega), hsw.out j (by omega)]; exact h i j h1 h2 hj h4
  · by_cases hi : i < a
    · exfalso
      have g1 : i / bs < q := (Nat.div_lt_iff_lt_mul hbs).2 (by omega)
      have g2 : q ≤ j / bs := (Nat.le_div_iff_mul_le hbs).2 (by omega)
      omega
    · exact hs i j (by omega) h2 h3
theorem Blk.rest {kf e e' : Nat → Nat} {bs a b hi : Nat} (h : Blk kf e bs a hi) (hab : a ≤ b) (hsw : St.Swaps a b e e') : Blk kf e' bs b hi := by
  intro i j h1 h2 h3 h4
  rw [hsw.out i (by omega), hsw.out j (by omega)]; exact h i j (by omega) h2 h3 h4

/-- The first part under way: blocks of twenty, up to a. -/
def Ph1 (kf : Nat → Nat) (n : Nat) (d : Nat → Nat) (a : Nat) (e : Nat → Nat) : Prop := (∃ q, a = q * 20) ∧ St.Swaps 0 n d e ∧ St.Ris kf e n ∧ Blk kf e 20 0 a
/-- Between two rounds of merges: blocks of bs. -/
def Ph2 (kf : Nat → Nat) (n : Nat) (d : Nat → Nat) (bs : Nat) (e : Nat → Nat) : Prop := St.Swaps 0 n d e ∧ St.Ris kf e n ∧ Blk kf e bs 0 n
/-- Within a round of merges: blocks of twice bs up to a. -/
def Ph3 (kf : Nat → Nat) (n : Nat) (d : Nat → Nat) (bs a : Nat) (e : Nat → Nat) : Prop := (∃ q, a = q * (2 * bs)) ∧ St.Swaps 0 n d e ∧ St.Ris kf e n ∧ Blk kf e (2 * bs) 0 a ∧ Blk kf e bs a n

theorem Ph1.start {kf d : Nat → Nat} {n : Nat} (h : St.Ris kf d n) : Ph1 kf n d 0 d := ⟨⟨0, by omega⟩, .refl _, h, fun i j h1 h2 h3 => by omega⟩
theorem Ph1.step {kf d e e' : Nat → Nat} {n a : Nat} (h : Ph1 kf n d a e) (hs : SortIs kf n e a (a + 20) e') (ha : a + 20 ≤ n) : Ph1 kf n d (a + 20) e' := by
  obtain ⟨⟨q, hq⟩, h1, h2, h3⟩ := h
  exact ⟨⟨q + 1, by omega⟩, h1.trans (hs.1.mono (by omega) ha), hs.2.1, h3.add (by omega) hq hs.1 hs.2.2⟩
theorem Ph1.done {kf d e e' : Nat → Nat} {n a : Nat} (h : Ph1 kf n d a e) (hs : SortIs kf n e a n e') : Ph2 kf n d 20 e' := by
  obtain ⟨⟨q, hq⟩, h1, h2, h3⟩ := h
  exact ⟨h1.trans (hs.1.mono (by omega) (Nat.le_refl _)), hs.2.1, h3.add (by omega) hq hs.1 hs.2.2⟩
theorem Ph2.start {kf d e : Nat → Nat} {n bs : Nat} (h : Ph2 kf n d bs e) : Ph3 kf n d bs 0 e := ⟨⟨0, by omega⟩, h.1, h.2.1, fun i j h1 h2 h3 => by omega, h.2.2⟩
theorem Ph2.done {kf d e : Nat → Nat} {n bs : Nat} (h : Ph2 kf n d bs e) (hn : n ≤ bs) : SortIs kf n d 0 n e :=
  ⟨h.1, h.2.1, fun i j h1 h2 h3 => h.2.2 i j h1 h2 h3 (by rw [Nat.div_eq_of_lt (by omega), Nat.div_eq_of_lt (by omega)])⟩
theorem Ph3.left {kf d e : Nat → Nat} {n bs a b : Nat} (h : Ph3 kf n d bs a e) (hb : b ≤ a + bs) (hn : b ≤ n) : St.Srt kf e a b := by
  obtain ⟨⟨q, hq⟩, h1, h2, h3, h4⟩ := h
  exact h4.srt (q := q * 2) (by rw [hq, Nat.mul_assoc]) (Nat.le_refl _) hb hn
theorem Ph3.right {kf d e : Nat → Nat} {n bs a b : Nat} (h : Ph3 kf n d bs a e) (hb : b ≤ a + 2 * bs) (hn : b ≤ n) : St.Srt kf e (a + bs) b := by
  obtain ⟨⟨q, hq⟩, h1, h2, h3, h4⟩ := h
  exact h4.srt (q := q * 2 + 1) (by rw [hq, Nat.succ_mul (q * 2) bs, Nat.mul_assoc]) (by omega) (by omega) hn
theorem Ph3.step {kf d e e' : Nat → Nat} {n bs a : Nat} (h : Ph3 kf n d bs a e) (hbs : 0 < bs) (hs : SortIs kf n e a (a + 2 * bs) e') (ha : a + 2 * bs ≤ n) : Ph3 kf n d bs (a + 2 * bs) e' := by
  obtain ⟨⟨q, hq⟩, h1, h2, h3, h4⟩ := h
  exact ⟨⟨q + 1, by rw [Nat.succ_mul q (2 * bs)]; omega⟩, h1.trans (hs.1.mono (by omega) ha), hs.2.1, h3.add (by omega) hq hs.1 hs.2.2, h4.rest (by omega) hs.1⟩
theorem Ph3.done {kf d e e' : Nat → Nat} {n bs a : Nat} (h : Ph3 kf n d bs a e) (hbs : 0 < bs) (hs : SortIs kf n e a n e') : Ph2 kf n d (2 * bs) e' := by
  obtain ⟨⟨q, hq⟩, h1, h2, h3, h4⟩ := h
  exact ⟨h1.trans (hs.1.mono (by omega) (Nat.le_refl _)), hs.2.1, h3.add (by omega) hq hs.1 hs.2.2⟩
theorem Ph3.same {kf d e : Nat → Nat} {n bs a : Nat} (h : Ph3 kf n d bs a e) (hn : n ≤ a + bs) : SortIs kf n e a n e := ⟨.refl _, h.2.2.1, h.left hn (Nat.le_refl _)⟩

/-- The sizes of blocks. -/
def Siz (bs : Nat) : Prop := bs = 20 ∨ bs = 40 ∨ bs = 80 ∨ bs = 160 ∨ bs = 320

theorem insertion_to (g cap n a b : Nat) (kf : Nat → Nat) (p : Nat → Prop) (d : Nat → Nat) (w : World) (hr : Rw w g n d) (hn : n ≤ 288) (hbn : b ≤ n) (hab : a ≤ 288) (hris : St.Ris kf d n) (hp : ∀ i, i < n → p (d i)) (hcmp : Cmps g kf p w) (A B : Int) (hA : A = (a : Int)) (hB : B = (b : Int)) :
    Calls Try.prog 47 #[.slice (some ⟨g, 0, none⟩) n cap, .int .i64 A, .int .i64 B, .func (.func 33) #[] #[]] w (SortPost g n w (SortIs kf n d a b)) := by
  subst hA hB
  exact insertion_any g cap n a b kf p d w hr hn hbn hab hris hp hcmp
theorem sym_to (g cap n a m b : Nat) (kf : Nat → Nat) (p : Nat → Prop) (d : Nat → Nat) (w : World) (hr : Rw w g n d) (hn : n ≤ 288) (ham : a < m) (hmb : m < b) (hbn : b ≤ n) (h1 : St.Srt kf d a m) (h2 : St.Srt kf d m b) (hris : St.Ris kf d n) (hp : ∀ i, i < n → p (d i)) (hcmp : Cmps g kf p w) (A M B : Int) (hA : A = (a : Int)) (hM : M = (m : Int)) (hB : B = (b : Int)) :
    Calls Try.prog 48 #[.slice (some ⟨g, 0, none⟩) n cap, .int .i64 A, .int .i64 M, .int .i64 B, .func (.func 33) #[] #[]] w (SortPost g n w (SortIs kf n d a b)) := by
  subst hA hM hB
  exact sym_any g cap n kf p hn (b - a) a m b d w (Nat.le_refl _) ham hmb hbn hr h1 h2 hris hp hcmp

set_option maxHeartbeats 4000000 in
theorem stable_any (g cap n : Nat) (kf : Nat → Nat) (p : Nat → Prop) (d : Nat → Nat) (w : World) (hr : Rw w g n d) (hn : n ≤ 288) (hris : St.Ris kf d n) (hp : ∀ i, i < n → p (d i)) (hcmp : Cmps g kf p w) :
    Calls Try.prog 41 #[.slice (some ⟨g, 0, none⟩) n cap, .int .i64 (n : Int), .func (.func 33) #[] #[]] w (SortPost g n w (SortIs kf n d 0 n)) := by
  have HR := Lib.hid hr
  have HC := Lib.hid hcmp
  have HP := Lib.hid hp
  have HI := Lib.hid hris
  clear hr hcmp hp hris
  go_enter Try.func41, Try.ntmps41
  go_wp2
  go_loopw [7, 8] (fun s7 s8 wr => ∃ (a : Nat) (e : Nat → Nat), a ≤ n ∧ s7 = .int .i64 a ∧ s8 = .int .i64 ((a : Int) + 20) ∧ Hid (Ph1 kf n d a e) ∧ Hid (Rw wr g n e) ∧ Hid (Only g w wr)) (fun s _ _ => n - (intOf s).toNat)
  case atStart => exact ⟨0, d, by omega, by go_num, by go_num, Ph1.start HI.out, HR, Only.refl _ _⟩
  case round =>
    obtain ⟨a, e, ha, rfl, rfl, KI, KR, KO⟩ := hrel
    by_cases hlt : a + 20 ≤ n
    · go_wp2_with fail
      refine (insertion_to g cap n a (a + 20) kf p e wr KR.out hn hlt (by omega) KI.out.2.2.1 (KI.out.2.1.all (Nat.le_refl _) p HP.out) (HC.out.later KO.out) _ _ rfl (by go_num)).mono ?_
      rintro e2 w2 ⟨rfl, d2, hr2, ho2, hs2⟩
      have Z1 := Lib.hid hr2
      have Z2 := Lib.hid (KO.out.trans ho2)
      have Z3 := Lib.hid hs2
      clear hr2 ho2 hs2
      go_wp2_with fail
      go_roundw
      case rel => exact ⟨a + 20, d2, hlt, by go_num, by go_num, KI.out.step Z3.out hlt, Z1, Z2⟩
      case measure => simp [intOf]; omega
    · go_wp2_with fail
      refine (insertion_to g cap n a n kf p e wr KR.out hn (Nat.le_refl _) (by omega) KI.out.2.2.1 (KI.out.2.1.all (Nat.le_refl _) p HP.out) (HC.out.later KO.out) _ _ rfl rfl).mono ?_
      rintro e2 w2 ⟨rfl, d2, hr2, ho2, hs2⟩
      have Z1 := Lib.hid hr2
      have Z2 := Lib.hid (KO.out.trans ho2)
      have Z3 : Hid (Ph2 kf n d 20 d2) := KI.out.done hs2
      clear hr2 ho2 hs2 KR KO KI
      go_wp2_with fail
      go_loopw [6, 7, 8, 9] (fun s6 _ _ _ wr => ∃ (bs : Nat) (e : Nat → Nat), Hid (Siz bs) ∧ s6 = .int .i64 bs ∧ Hid (Ph2 kf n d bs e) ∧ Hid (Rw wr g n e) ∧ Hid (Only g w wr)) (fun s _ _ _ _ => n - (intOf s).toNat)
      case atStart => exact ⟨20, d2, Or.inl rfl, by go_num, Z3, Z1, Z2⟩
      case round =>
        clear Z1 Z2 Z3
        obtain ⟨bs, e, hbs, rfl, KI, KR, KO⟩ := hrel
        have hb0 : 20 ≤ bs := by have := hbs.out; unfold Siz at this; omega
        have hb1 : bs ≤ 320 := by have := hbs.out; unfold Siz at this; omega
        by_cases hlt : bs < n
        · have hb2 : Hid (Siz (2 * bs)) := by have h := hbs.out; show Siz _; unfold Siz at h ⊢; omega
          go_wp2_with fail
          go_loopw [7, 8] (fun s7 s8 wx => ∃ (a : Nat) (e : Nat → Nat), a ≤ n ∧ s7 = .int .i64 a ∧ s8 = .int .i64 ((a : Int) + 2 * (bs : Int)) ∧ Hid (Ph3 kf n d bs a e) ∧ Hid (Rw wx g n e) ∧ Hid (Only g w wx)) (fun s _ _ => n - (intOf s).toNat)
          case atStart => exact ⟨0, e, by omega, by go_num, by go_num, KI.out.start, KR, KO⟩
          case round =>
            clear KI KR KO
            obtain ⟨a, e3, ha, rfl, rfl, KI, KR, KO⟩ := hrel
            by_cases hlt3 : a + 2 * bs ≤ n
            · go_wp2_with fail
              refine (sym_to g cap n a (a + bs) (a + 2 * bs) kf p e3 _ KR.out hn (by omega) (by omega) hlt3 (KI.out.left (Nat.le_refl _) (by omega)) (KI.out.right (Nat.le_refl _) hlt3) KI.out.2.2.1 (KI.out.2.1.all (Nat.le_refl _) p HP.out) (HC.out.later KO.out) _ _ _ rfl (by go_num) (by go_num)).mono ?_
              rintro e4 w4 ⟨rfl, d4, hr4, ho4, hs4⟩
              have Z1 := Lib.hid hr4
              have Z2 := Lib.hid (KO.out.trans ho4)
              have Z3 := Lib.hid hs4
              clear hr4 ho4 hs4
              go_wp2_with fail
              go_roundw
              case rel => exact ⟨a + 2 * bs, d4, hlt3, by go_num, by go_num, KI.out.step (by omega) Z3.out hlt3, Z1, Z2⟩
              case measure => simp [intOf]; omega
            · by_cases hm : a + bs < n
              · go_wp2_with fail
                refine (sym_to g cap n a (a + bs) n kf p e3 _ KR.out hn (by omega) hm (Nat.le_refl _) (KI.out.left (Nat.le_refl _) (by omega)) (KI.out.right (by omega) (Nat.le_refl _)) KI.out.2.2.1 (KI.out.2.1.all (Nat.le_refl _) p HP.out) (HC.out.later KO.out) _ _ _ rfl (by go_num) rfl).mono ?_
                rintro e4 w4 ⟨rfl, d4, hr4, ho4, hs4⟩
                have Z1 := Lib.hid hr4
                have Z2 := Lib.hid (KO.out.trans ho4)
                have Z3 := Lib.hid hs4
                clear hr4 ho4 hs4
                go_wp2_with fail
                go_roundw
                case rel => exact ⟨2 * bs, d4, hb2, by go_num, KI.out.done (by omega) Z3.out, Z1, Z2⟩
                case measure => simp [intOf]; omega
              · go_wp2_with fail
                go_roundw
                case rel => exact ⟨2 * bs, e3, hb2, by go_num, KI.out.done (by omega) (KI.out.same (by omega)), KR, KO⟩
                case measure => simp [intOf]; omega
        · go_wp2_with fail
          go_end0
          exact ⟨rfl, _, KR.out, KO.out, KI.out.done (by omega)⟩
end Go.Proofs.Ytedbonnejgpjeaa
