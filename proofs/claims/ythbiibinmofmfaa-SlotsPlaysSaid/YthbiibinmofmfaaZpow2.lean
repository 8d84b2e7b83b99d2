/- What Format and Commit leave, and what a crash leaves of it. Plain. -/
import Derived.Test.YthbiibinmofmfaaZpow

namespace Go.Proofs.Ythbiibinmofmfaa
set_option maxRecDepth 100000

namespace Ek
theorem share_zeroP (c : Int) : share 0 c = 0 ∨ share 0 c = 512 := by
  unfold share
  by_cases h : c < 1
  · exact Or.inl (if_pos h)
  · rw [if_neg h, if_pos (Or.inr rfl)]; exact Or.inr rfl
theorem sync_out {d : Dk} (h : d.left = 0) : changeE d = 6 ∧ (sync d).dark = true ∧ (sync d).loose = d.loose ∧ (sync d).sure = d.sure ∧ (sync d).n = d.n := by
  obtain ⟨a, b⟩ := change_out h
  have e : sync d = change d := by unfold sync; rw [if_neg (by rw [b]; decide)]
  rw [e]
  exact ⟨b, a, change_loose d, change_sure d, change_n d⟩
theorem sync_on {d : Dk} (hd : d.dark = false) (h : d.left ≠ 0) : changeE d = 0 ∧ (sync d).dark = false ∧ (sync d).loose = [] ∧ (sync d).sure = settleTo d.sure d.loose (fun _ => 1) d.loose.length ∧ (sync d).n = d.n ∧ (-1 ≤ d.left → -1 ≤ (sync d).left) ∧ (d.left = -1 → (sync d).left = -1) ∧ (sync d).used = d.used := by
  obtain ⟨a, b, c, e⟩ := change_on hd h
  have es : sync d = settled (change d) (fun _ => 1) := by unfold sync; rw [if_pos a]
  rw [es]
  refine ⟨a, b, rfl, ?_, change_n d, c, e, change_used d⟩
  show settleTo (change d).sure (change d).loose _ (change d).loose.length = _
  rw [change_sure, change_loose]
theorem put_out {d : Dk} {i : Nat} {r : List Nat} (hd : d.dark = false) (h : d.left = 0) (hi : i < d.n) (hr : r.length = 512) : writeE d (i : Int) r = 6 ∧ (write d (i : Int) r).dark = true ∧ (write d (i : Int) r).loose = d.loose ++ [(i, r)] ∧ (write d (i : Int) r).sure = d.sure ∧ (write d (i : Int) r).n = d.n := by
  have hb : ¬ Bad d (i : Int) r := by unfold Bad; omega
  have e : write d (i : Int) r = change (added d (i : Int) r) := by unfold write; rw [if_neg hb, if_neg (by simp [hd])]
  have e2 : writeE d (i : Int) r = changeE d := by unfold writeE; rw [if_neg hb, if_neg (by simp [hd])]
  obtain ⟨a, _⟩ := change_out (d := added d (i : Int) r) h
  rw [e, e2]
  refine ⟨(change_out h).2, a, ?_, ?_, ?_⟩
  · rw [change_loose]; show d.loose ++ [(((i : Int)).toNat, r)] = _; rw [Int.toNat_natCast]
  · rw [change_sure]; rfl
  · rw [change_n]; rfl
theorem put_on {d : Dk} {i : Nat} {r : List Nat} (hd : d.dark = false) (h : d.left ≠ 0) (hi : i < d.n) (hr : r.length = 512) : writeE d (i : Int) r = 0 ∧ (write d (i : Int) r).dark = false ∧ (write d (i : Int) r).loose = d.loose ++ [(i, r)] ∧ (write d (i : Int) r).sure = d.sure ∧ (write d (i : Int) r).n = d.n ∧ (-1 ≤ d.left → -1 ≤ (write d (i : Int) r).left) ∧ (d.left = -1 → (write d (i : Int) r).left = -1) ∧ (write d (i : Int) r).used = d.used + 1 := by
  have hb : ¬ Bad d (i : Int) r := by unfold Bad; omega
  have e : write d (i : Int) r = change (added d (i : Int) r) := by unfold write; rw [if_neg hb, if_neg (by simp [hd])]
  have e2 : writeE d (i : Int) r = changeE d := by unfold writeE; rw [if_neg hb, if_neg (by simp [hd])]
  obtain ⟨_, b, c, f⟩ := change_on (d := added d (i : Int) r) hd h
  rw [e, e2]
  refine ⟨(change_on hd h).1, b, ?_, ?_, ?_, c, f, ?_⟩
  · rw [change_loose]; show d.loose ++ [(((i : Int)).toNat, r)] = _; rw [Int.toNat_natCast]
  · rw [change_sure]; rfl
  · rw [change_n]; rfl
  · rw [change_used]; rfl
end Ek

namespace Sk
/-- The sectors with a slot's pieces in them. -/
def filled (d : Ek.Dk) (so : Nat) (bs : List Nat) : Nat → List Nat := Ek.settleTo d.sure (rows d.n so bs (pieces bs)) (fun _ => 1) (pieces bs)
theorem rows_off {n so : Nat} {bs : List Nat} {m i : Nat} (hm : m ≤ share n) (hi : i < front n so ∨ front n so + share n ≤ i) : ∀ p ∈ rows n so bs m, p.1 ≠ i := by
  intro p hp e
  obtain ⟨j, hj, rfl⟩ := rows_mem hp
  simp only at e
  omega
theorem filled_off (d : Ek.Dk) (so : Nat) (bs : List Nat) (hp : pieces bs ≤ share d.n) (i : Nat) (hi : i < front d.n so ∨ front d.n so + share d.n ≤ i) : filled d so bs i = d.sure i :=
  Ek.settle_off _ _ _ _ _ (rows_off hp hi)
theorem filled_at {d : Ek.Dk} (h : ∀ i, Row (d.sure i)) (so : Nat) (bs : List Nat) (h8 : ∀ x ∈ bs, x < 256) (i : Nat) (hi : i < pieces bs) : filled d so bs (front d.n so + i) = padded (piece bs i) :=
  settle_rows d.sure h d.n so bs h8 _ _ (Nat.le_refl _) i hi
theorem filled_row {d : Ek.Dk} (h : ∀ i, Row (d.sure i)) (so : Nat) (bs : List Nat) (h8 : ∀ x ∈ bs, x < 256) (i : Nat) : Row (filled d so bs i) := Ek.settle_row h (rows_row h8) _ _ i
/-- The other slot lies apart. -/
theorem slots_apart {n sl so : Nat} (hs : sl ≤ 1) (ho : so = 1 - sl) (i : Nat) (h1 : front n sl ≤ i) (h2 : i < front n sl + share n) : i < front n so ∨ front n so + share n ≤ i := by
  unfold front at *
  rcases Nat.eq_zero_or_pos sl with h | h
  · subst h; subst ho
    simp only [Nat.zero_mul, Nat.add_zero, Nat.sub_zero, Nat.one_mul] at *
    omega
  · obtain rfl : sl = 1 := by omega
    subst ho
    simp only [Nat.sub_self, Nat.zero_mul, Nat.add_zero, Nat.one_mul] at *
    omega
theorem zero_apart (n so : Nat) : 0 < front n so ∨ front n so + share n ≤ 0 := by left; unfold front; omega
/-- What is there when the header has been written, too. -/
theorem loads_new {n so g : Nat} {f : Nat → List Nat} {bs : List Nat} (hso : so ≤ 1) (hg : g < 4294967295) (hb : bs.length ≤ room n) (h8 : ∀ x ∈ bs, x < 256) (hl : ∀ i, (f i).length = 512) (h0 : f 0 = header ⟨g + 1, so, bs.length, Cr.sum 0 bs⟩) (hf : ∀ i, i < pieces bs → f (front n so + i) = padded (piece bs i)) :
    Loads n f bs (g + 1) so := by
  have hr : room n ≤ 1048576 := by unfold room; split <;> omega
  exact ⟨⟨g + 1, so, bs.length, Cr.sum 0 bs⟩, ⟨by show g + 1 < _; omega, by show so < _; omega, by show bs.length < _; omega, Cr.sum_lt 0 bs (by decide) h8⟩, h0, rfl, hso, hb, rfl, bytes_pieces n f so bs hf hl, rfl⟩

theorem one_usedP (d : Ek.Dk) (x : Step) : (one d x).used ≤ d.used + 1 := by
  cases x with
  | put i r =>
    show (Ek.write d (i : Int) r).used ≤ _
    unfold Ek.write
    split
    · omega
    · split
      · omega
      · rw [Ek.change_used]; exact Nat.le_refl _
  | sync =>
    show (Ek.sync d).used ≤ _
    unfold Ek.sync
    split
    · show (Ek.change d).used ≤ _; rw [Ek.change_used]; omega
    · rw [Ek.change_used]; omega
theorem runs_usedP (d : Ek.Dk) (xs : List Step) : (runs d xs).used ≤ d.used + xs.length := by
  induction xs generalizing d with
  | nil => exact Nat.le_refl _
  | cons x xs ih =>
    simp only [runs, List.length_cons]
    have := one_usedP d x
    split
    · have := ih (one d x); omega
    · omega
/-- How a Commit that has room ends. -/
inductive Ends (d : Ek.Dk) (so : Nat) (g : Nat) (bs : List Nat) (y : Ek.Dk) : Prop where
  | early (m : Nat) (hm : m ≤ pieces bs) (hl : y.loose = rows d.n so bs m) (hs : y.sure = d.sure)
  | late (hl : y.loose = [(0, header ⟨g + 1, so, bs.length, Cr.sum 0 bs⟩)]) (hs : y.sure = filled d so bs)

theorem commit_ends {d : Ek.Dk} {b : List Nat} {g sl : Nat} (hok : Ek.Ok d) (hc : d.loose = []) (hd : d.dark = false) (hn : 3 ≤ d.n) (hlo : Loads d.n (Ek.now d) b g sl) (hg : g < 4294967295) (bs : List Nat) (_h8 : ∀ x ∈ bs, x < 256) (hb : bs.length ≤ room d.n) :
    (commitE d bs = 0 ∧ (commit d bs).n = d.n ∧ (commit d bs).loose = [] ∧ (commit d bs).dark = false ∧ (commit d bs).sure = Ek.lay (filled d (1 - sl) bs) 0 (header ⟨g + 1, 1 - sl, bs.length, Cr.sum 0 bs⟩) 512 ∧ (d.left = -1 → (commit d bs).left = -1) ∧ (commit d bs).used ≤ d.used + pieces bs + 3) ∨
    (commitE d bs = 6 ∧ (commit d bs).dark = true ∧ (commit d bs).n = d.n ∧ Ends d (1 - sl) g bs (commit d bs) ∧ d.left ≠ -1 ∧ (commit d bs).used ≤ d.used + pieces bs + 3) := by
  obtain ⟨q0, q1, q2, q3, q4⟩ := hlo.told hd hn
  obtain ⟨s0, _, _, _, hsl1, _⟩ := hlo
  have he0 : commitE0 d bs = 0 := by
    unfold commitE0
    rw [if_neg (by rw [q0]; simp), if_neg (by rw [q4]; omega), if_neg (by omega)]
  have hcm : commit d bs = runs d (commitS d bs) := by unfold commit; rw [if_pos he0]
  have hce : commitE d bs = runsE d (commitS d bs) := by unfold commitE; rw [if_pos he0]
  have hS : commitS d bs = fillTo d.n (1 - sl) bs (pieces bs) ++ ([.sync] ++ ([.put 0 (header ⟨g + 1, 1 - sl, bs.length, Cr.sum 0 bs⟩)] ++ [.sync])) := by
    unfold commitS next shut fill
    rw [q3, q4, List.append_assoc]; rfl
  have hpc : pieces bs ≤ share d.n := by
    have := room_share d.n bs.length hb
    exact this
  have hused : (runs d (commitS d bs)).used ≤ d.used + pieces bs + 3 := by
    have h1 := runs_usedP d (commitS d bs)
    have h2 : (commitS d bs).length = pieces bs + 3 := by
      unfold commitS fill shut
      rw [List.length_append, List.length_append, fillTo_length]; rfl
    omega
  rw [hcm, hce]
  obtain ⟨HD, hHD⟩ : ∃ r, r = header ⟨g + 1, 1 - sl, bs.length, Cr.sum 0 bs⟩ := ⟨_, rfl⟩
  have hHl : HD.length = 512 := by rw [hHD]; exact header_length _
  rw [← hHD] at hS ⊢
  rw [hS] at hused ⊢
  simp only [runs_append, runsE_append, runs_one, runsE_one, one, oneE] at hused ⊢
  rcases fill_runs (d := d) (n := d.n) (slot := 1 - sl) (b := bs) rfl hd hok.left0 (by omega) (pieces bs) hpc with ⟨h0, h1, h2, h3, h4, h5, h6, h7⟩ | ⟨h0, ⟨m, hm, h1⟩, h2, h3, h4, h5, h6⟩
  · rw [hc, List.nil_append] at h1
    simp only [h0, if_true] at hused ⊢
    generalize runs d (fillTo d.n (1 - sl) bs (pieces bs)) = x at *
    by_cases z1 : x.left = 0
    · obtain ⟨a1, a2, a3, a4, a5⟩ := Ek.sync_out z1
      right
      have hl6 : d.left ≠ -1 := fun q => by rw [h7 q] at z1; exact absurd z1 (by decide)
      simp only [a1, show ((6 : Int) = 0) = False by decide, if_false] at hused ⊢
      exact ⟨trivial, a2, a5.trans h3, .early (pieces bs) (Nat.le_refl _) (a3.trans h1) (a4.trans h4), hl6, hused⟩
    · obtain ⟨a1, a2, a3, a4, a5, a6, a7, a8⟩ := Ek.sync_on h2 z1
      simp only [a1, if_true] at hused ⊢
      rw [h4, h1, rows_length] at a4
      have a4' : (Ek.sync x).sure = filled d (1 - sl) bs := a4
      generalize Ek.sync x = y at *
      by_cases z2 : y.left = 0
      · obtain ⟨b1, b2, b3, b4, b5⟩ := Ek.put_out (i := 0) (r := HD) a2 z2 (by rw [a5, h3]; omega) hHl
        right
        have hl6 : d.left ≠ -1 := fun q => by rw [a7 (h7 q)] at z2; exact absurd z2 (by decide)
        simp only [show ((0 : Nat) : Int) = 0 from rfl] at b1 b2 b3 b4 b5
        simp only [Int.natCast_zero, b1, show ((6 : Int) = 0) = False by decide, if_false] at hused ⊢
        exact ⟨trivial, b2, b5.trans (a5.trans h3), .late (by rw [b3, a3, hHD]; rfl) (b4.trans a4'), hl6, hused⟩
      · obtain ⟨b1, b2, b3, b4, b5, b6, b7, b8⟩ := Ek.put_on (i := 0) (r := HD) a2 z2 (by rw [a5, h3]; omega) hHl
        simp only [show ((0 : Nat) : Int) = 0 from rfl] at b1 b2 b3 b4 b5 b6 b7 b8
        simp only [Int.natCast_zero, b1, if_true] at hused ⊢
        rw [a3, List.nil_append] at b3
        generalize Ek.write y 0 HD = z at *
        by_cases z3 : z.left = 0
        · obtain ⟨c1, c2, c3, c4, c5⟩ := Ek.sync_out z3
          right
          have hl6 : d.left ≠ -1 := fun q => by rw [b7 (a7 (h7 q))] at z3; exact absurd z3 (by decide)
          exact ⟨c1, c2, c5.trans (b5.trans (a5.trans h3)), .late (by rw [c3, b3, hHD]) (c4.trans (b4.trans a4')), hl6, hused⟩
        · obtain ⟨c1, c2, c3, c4, c5, c6, c7, c8⟩ := Ek.sync_on b2 z3
          left
          refine ⟨c1, c5.trans (b5.trans (a5.trans h3)), c3, c2, ?_, fun q => c7 (b7 (a7 (h7 q))), hused⟩
          rw [c4, b3, b4, a4']
          rfl
  · right
    simp only [h0, show ((6 : Int) = 0) = False by decide, if_false] at hused ⊢
    rw [hc, List.nil_append] at h1
    exact ⟨trivial, h2, h3, .early m hm h1 h4, h6, hused⟩

/-- No write is loose, no fuse laid, the power there. -/
def Cln (d : Ek.Dk) : Prop := d.loose = [] ∧ d.dark = false ∧ d.left = -1
theorem lay_whole (f : Nat → List Nat) (r : List Nat) (hr : r.length = 512) (hf : ∀ i, (f i).length = 512) : (Ek.lay f 0 r 512) 0 = r ∧ ∀ i, i ≠ 0 → (Ek.lay f 0 r 512) i = f i := by
  refine ⟨?_, fun i hi => ?_⟩
  · unfold Ek.lay; rw [if_pos rfl, List.take_of_length_le (by omega), List.drop_of_length_le (by rw [hf]; exact Nat.le_refl _), List.append_nil]
  · unfold Ek.lay; rw [if_neg hi]
theorem front_pos (n so i : Nat) : front n so + i ≠ 0 := by unfold front; omega
theorem new_of_filled {d : Ek.Dk} (hok : Ek.Ok d) {so g : Nat} {bs : List Nat} (hso : so ≤ 1) (hg : g < 4294967295) (hb : bs.length ≤ room d.n) (h8 : ∀ x ∈ bs, x < 256) :
    Loads d.n (Ek.lay (filled d so bs) 0 (header ⟨g + 1, so, bs.length, Cr.sum 0 bs⟩) 512) bs (g + 1) so := by
  obtain ⟨a, b⟩ := lay_whole (filled d so bs) (header ⟨g + 1, so, bs.length, Cr.sum 0 bs⟩) (header_length _) (fun i => (filled_row hok.sure so bs h8 i).1)
  refine loads_new hso hg hb h8 (fun i => ?_) a (fun i hi => ?_)
  · by_cases hi : i = 0
    · rw [hi, a]; exact header_length _
    · rw [b i hi]; exact (filled_row hok.sure so bs h8 i).1
  · rw [b _ (front_pos _ _ _)]; exact filled_at hok.sure so bs h8 i hi
/-- A Commit with no fuse laid. -/
theorem commit_free {d : Ek.Dk} {b : List Nat} {g sl : Nat} (hok : Ek.Ok d) (hc : Cln d) (hn : 3 ≤ d.n) (hlo : Loads d.n (Ek.now d) b g sl) (hg : g < 4294967295) (bs : List Nat) (h8 : ∀ x ∈ bs, x < 256) (hb : bs.length ≤ room d.n) :
    commitE d bs = 0 ∧ (commit d bs).n = d.n ∧ Cln (commit d bs) ∧ Loads d.n (Ek.now (commit d bs)) bs (g + 1) (1 - sl) ∧ (commit d bs).used ≤ d.used + pieces bs + 3 ∧ (commit d bs).sure = Ek.lay (filled d (1 - sl) bs) 0 (header ⟨g + 1, 1 - sl, bs.length, Cr.sum 0 bs⟩) 512 := by
  rcases commit_ends hok hc.1 hc.2.1 hn hlo hg bs h8 hb with ⟨h1, h2, h3, h4, h5, h6, h7⟩ | ⟨_, _, _, _, h, _⟩
  · refine ⟨h1, h2, ⟨h3, h4, h6 hc.2.2⟩, ?_, h7, h5⟩
    have e : Ek.now (commit d bs) = Ek.lay (filled d (1 - sl) bs) 0 (header ⟨g + 1, 1 - sl, bs.length, Cr.sum 0 bs⟩) 512 := by
      funext i; rw [Ek.now_clean h3, h5]
    rw [e]
    exact new_of_filled hok (by omega) hg hb h8
  · exact absurd hc.2.2 h
/-- Behind a crash there is what was committed ahead, or what was given. -/
theorem crash_loads {d : Ek.Dk} {b : List Nat} {g sl : Nat} (hok : Ek.Ok d) (hc : d.loose = []) (hd : d.dark = false) (hn : 3 ≤ d.n) (hlo : Loads d.n (Ek.now d) b g sl) (hg : g < 4294967295) (bs : List Nat) (h8 : ∀ x ∈ bs, x < 256) (hb : bs.length ≤ room d.n) (keep : Nat → Int) :
    (commitE d bs = 0 ∧ Loads d.n (Ek.now (Ek.crash (commit d bs) keep)) bs (g + 1) (1 - sl)) ∨
    (commitE d bs = 6 ∧ (commit d bs).dark = true ∧ (Loads d.n (Ek.now (Ek.crash (commit d bs) keep)) b g sl ∨ Loads d.n (Ek.now (Ek.crash (commit d bs) keep)) bs (g + 1) (1 - sl))) := by
  have hsl1 : sl ≤ 1 := by obtain ⟨s0, _, _, _, q, _⟩ := hlo; exact q
  have hpc : pieces bs ≤ share d.n := room_share d.n bs.length hb
  rcases commit_ends hok hc hd hn hlo hg bs h8 hb with ⟨h1, h2, h3, h4, h5, h6, h7⟩ | ⟨h1, h2, h3, h4, _, _⟩
  · left
    refine ⟨h1, ?_⟩
    have e : Ek.now (Ek.crash (commit d bs) keep) = Ek.lay (filled d (1 - sl) bs) 0 (header ⟨g + 1, 1 - sl, bs.length, Cr.sum 0 bs⟩) 512 := by
      funext i; rw [Ek.now_crash, h3, h5]; rfl
    rw [e]
    exact new_of_filled hok (by omega) hg hb h8
  · right
    refine ⟨h1, h2, ?_⟩
    cases h4 with
    | early m hm hl hs =>
      left
      refine hlo.same ?_ (fun i hi1 hi2 => ?_)
      · rw [Ek.now_crash, hl, hs, Ek.settle_off _ _ _ _ _ (rows_off (by omega) (zero_apart _ _)), Ek.now_clean hc]
      · rw [Ek.now_crash, hl, hs, Ek.settle_off _ _ _ _ _ (rows_off (by omega) (slots_apart hsl1 rfl i hi1 hi2)), Ek.now_clean hc]
    | late hl hs =>
      have e : ∀ i, Ek.now (Ek.crash (commit d bs) keep) i = Ek.lay (filled d (1 - sl) bs) 0 (header ⟨g + 1, 1 - sl, bs.length, Cr.sum 0 bs⟩) (Ek.share 0 (keep 0)) i := fun i => by
        rw [Ek.now_crash, hl, hs]; rfl
      rcases Ek.share_zeroP (keep 0) with q | q
      · left
        have e2 : ∀ i, Ek.now (Ek.crash (commit d bs) keep) i = filled d (1 - sl) bs i := fun i => by
          rw [e i, q]; unfold Ek.lay
          by_cases hi : i = 0
          · rw [if_pos hi, hi, List.take_zero, List.drop_zero, List.nil_append]
          · rw [if_neg hi]
        refine hlo.same ?_ (fun i hi1 hi2 => ?_)
        · rw [e2, filled_off d _ bs hpc 0 (zero_apart _ _), Ek.now_clean hc]
        · rw [e2, filled_off d _ bs hpc i (slots_apart hsl1 rfl i hi1 hi2), Ek.now_clean hc]
      · right
        have e2 : Ek.now (Ek.crash (commit d bs) keep) = Ek.lay (filled d (1 - sl) bs) 0 (header ⟨g + 1, 1 - sl, bs.length, Cr.sum 0 bs⟩) 512 := by
          funext i; rw [e i, q]
        rw [e2]
        exact new_of_filled hok (by omega) hg hb h8
/-- Format of a disk with no fuse laid. -/
theorem format_free {d : Ek.Dk} (hok : Ek.Ok d) (hc : Cln d) (hn : 3 ≤ d.n) : formatE d = 0 ∧ (format d).n = d.n ∧ Cln (format d) ∧ Loads d.n (Ek.now (format d)) [] 0 0 ∧ (format d).used ≤ d.used + 2 := by
  have h1 : format d = runs d ([.put 0 (header ⟨0, 0, 0, 0⟩)] ++ [.sync]) := by unfold format; rw [if_neg (by omega)]; rfl
  have h2 : formatE d = runsE d ([.put 0 (header ⟨0, 0, 0, 0⟩)] ++ [.sync]) := by unfold formatE; rw [if_neg (by omega)]; rfl
  have hu := runs_usedP d ([.put 0 (header ⟨0, 0, 0, 0⟩)] ++ [.sync])
  rw [← h1] at hu
  rw [h2]
  obtain ⟨b1, b2, b3, b4, b5, b6, b7, b8⟩ := Ek.put_on (i := 0) (r := header ⟨0, 0, 0, 0⟩) hc.2.1 (by rw [hc.2.2]; decide) (by omega) (header_length _)
  rw [show ((0 : Nat) : Int) = 0 from rfl] at b1 b2 b3 b4 b5 b6 b7 b8
  have b9 := b7 hc.2.2
  obtain ⟨c1, c2, c3, c4, c5, c6, c7, c8⟩ := Ek.sync_on b2 (by rw [b9]; decide)
  have hf : format d = Ek.sync (Ek.write d 0 (header ⟨0, 0, 0, 0⟩)) := by
    rw [h1, runs_append, runs_one, runsE_one, runs_one]
    simp only [one, oneE, Int.natCast_zero, b1, if_true]
  have hfe : runsE d ([.put 0 (header ⟨0, 0, 0, 0⟩)] ++ [.sync]) = 0 := by
    rw [runsE_append, runsE_one, runs_one, runsE_one]
    simp only [one, oneE, Int.natCast_zero, b1, if_true]
    exact c1
  rw [hf] at hu ⊢
  rw [hc.1, List.nil_append] at b3
  refine ⟨hfe, c5.trans b5, ⟨c3, c2, c7 b9⟩, ?_, hu⟩
  have e : Ek.now (Ek.sync (Ek.write d 0 (header ⟨0, 0, 0, 0⟩))) = Ek.lay d.sure 0 (header ⟨0, 0, 0, 0⟩) 512 := by
    funext i; rw [Ek.now_clean c3, c4, b3, b4]; rfl
  rw [e]
  obtain ⟨l1, _⟩ := lay_whole d.sure (header ⟨0, 0, 0, 0⟩) (header_length _) (fun i => (hok.sure i).1)
  exact ⟨⟨0, 0, 0, 0⟩, ⟨by decide, by decide, by decide, by decide⟩, l1, rfl, by decide, Nat.zero_le _, rfl, by simp [bytes, secs], by decide⟩
end Sk
end Go.Proofs.Ythbiibinmofmfaa
