/- slots' calls on the program's disk beside blocks; both Loads; what a round does. -/
import Derived.Test.YthbiibinmofmfaaZrcm
import Derived.Test.YthbiibinmofmfaaZwr
import Derived.Test.YthbiibinmofmfaaZlv
import Derived.Test.YthbiibinmofmfaaEact8
import Derived.Test.YthbiibinmofmfaaZfew

namespace Go.Proofs.Ythbiibinmofmfaa
set_option maxRecDepth 100000
open Go.RowKit

theorem Try.infoAct6 : (Try.prog.info? 38).map (·.size) = some 6 := by kernel_rfl
theorem ly_format {w0 w : World} {b : Nat} {d : Ek.Dk} {E : Nat → Prop} (h : Ly w0 w b d E) (hu : d.used ≤ 900) : Calls Try.prog 12 #[.pointer (some ⟨b, 0, none⟩)] w (LyP w0 w b (Sk.format d) E (.int .i64 (Sk.formatE d))) := by
  obtain ⟨S, hd, hS, hn, hb⟩ := h
  exact (format_any w S b d hd (fun k hk => (hS k hk).2.1) hu).mono fun e w' hp => LyP.of hS hn hb hp
theorem ly_commit {w0 w : World} {b : Nat} {d : Ek.Dk} {E : Nat → Prop} (h : Ly w0 w b d E) (a : Option Addr) (len cap : Nat) (bs : List Nat) (hs : Sl w (.slice a len cap) bs) (hc : len ≤ cap) (hg : 0 < len → ∀ g off spot, a = some ⟨g, off, spot⟩ → E g) (hu : d.used + Sk.share d.n + 3 < 1000) :
    Calls Try.prog 10 #[.pointer (some ⟨b, 0, none⟩), .slice a len cap] w (LyP w0 w b (Sk.commit d bs) E (.int .i64 (Sk.commitE d bs))) := by
  obtain ⟨S, hd, hS, hn, hb⟩ := h
  exact (commit_any w S b d hd (fun k hk => (hS k hk).2.1) a len cap bs ⟨hs, hc, fun hp g off spot e => ⟨fun q => (hS g q).2.2 (hg hp g off spot e), hn g (hg hp g off spot e)⟩⟩ hu).mono fun e w' hp => LyP.of hS hn hb hp
/-- Both Loads tell the same. -/
theorem two_loads {w0 w : World} {b : Nat} {d : Ek.Dk} {v : Value} {E G F : Nat → Prop} {ws : World} (h : Bo w0 w b d v d E G F ws) : ∃ (lb : List Nat) (lg ls : Nat) (le : Int),
    (∀ W, Below w.heap.size w W → Calls Try.prog 18 #[.pointer (some ⟨b, 0, none⟩)] W fun e w' => Below W.heap.size W w' ∧ ∃ a len cap, e = .returned (.tuple #[.slice a len cap, .int .i64 (lg : Int), .int .i64 le]) ∧ Sl w' (.slice a len cap) lb) ∧
    (∀ W, Below w.heap.size w W → Calls Try.prog 19 #[v] W fun e w' => e = .returned (.tuple #[.string (strB lb), .int .i64 (lg : Int), .int .i64 (ls : Int), .int .i64 le]) ∧ Below W.heap.size W w') := by
  refine ⟨Sk.loadB d, Sk.loadG d, Sk.loadS d, Sk.loadE d, fun W hb => ?_, fun W hb => rload_any W G v d (h.doc.later hb)⟩
  refine (lz_load (h.ly.lv.later hb)).mono ?_
  rintro e w' ⟨h1, a, cap, he, hs, -⟩
  exact ⟨h1, a, _, cap, he, hs⟩

namespace Sk
theorem one_n16 (d : Ek.Dk) (x : Step) : (one d x).n = d.n := by
  cases x with
  | put i r =>
    show (Ek.write d (i : Int) r).n = _
    unfold Ek.write
    split
    · rfl
    · split
      · rfl
      · rw [Ek.change_n]; rfl
  | sync =>
    show (Ek.sync d).n = _
    unfold Ek.sync
    split
    · show (Ek.change d).n = _; exact Ek.change_n d
    · exact Ek.change_n d
theorem runs_n16 : ∀ (xs : List Step) (d : Ek.Dk), (runs d xs).n = d.n := fun xs => by
  induction xs with
  | nil => intro d; rfl
  | cons x xs ih =>
    intro d
    simp only [runs]
    split
    · rw [ih, one_n16]
    · exact one_n16 d x
theorem commit_n (d : Ek.Dk) (bs : List Nat) : (commit d bs).n = d.n := by
  unfold commit
  split
  · exact runs_n16 _ _
  · rfl
theorem commit_used (d : Ek.Dk) (bs : List Nat) (hn : d.n ≤ 24) : (commit d bs).used ≤ d.used + 14 := by
  unfold commit
  split
  · rename_i h
    obtain ⟨-, -, hl⟩ := commitE0_is d bs h
    have h1 := runs_usedP d (commitS d bs)
    have h2 : (commitS d bs).length = pieces bs + 3 := by
      unfold commitS fill shut
      simp only [List.length_append, fillTo_length, List.length_cons, List.length_nil]
    have h3 : pieces bs ≤ 11 := by
      unfold pieces
      unfold room share at hl
      split at hl <;> omega
    omega
  · omega
theorem format_used (d : Ek.Dk) : (format d).used ≤ d.used + 14 := by
  unfold format
  split
  · omega
  · have := runs_usedP d (shut ⟨0, 0, 0, 0⟩)
    have h2 : (shut ⟨0, 0, 0, 0⟩).length = 2 := rfl
    omega
theorem format_n (d : Ek.Dk) : (format d).n = d.n := by
  unfold format
  split
  · rfl
  · exact runs_n16 _ _
/-- What a call does. -/
def nx (d : Ek.Dk) (kind I long : Int) (c : Nat) (ys : List Nat) (ks : List Int) : Ek.Dk := if kind = 1 then commit d ys else if kind = 2 then format d else if kind = 3 then Ek.fuse d I else if kind = 4 then Ek.crash d (Ek.nth ks) else if kind = 5 then Ek.hand d I long c else d
end Sk
theorem Ek.hand_n (d : Ek.Dk) (I long : Int) (c : Nat) : (Ek.hand d I long c).n = d.n := by
  unfold Ek.hand
  split
  · rfl
  · unfold Ek.write
    split
    · rfl
    · rw [Ek.change_n]; rfl

theorem sl_row {w : World} {k : Nat} {cs : Array Value} {a : Option Addr} {n c : Nat} {bs : List Nat} (h : Sl w (.slice a n c) bs) (hne : 0 < n → ∀ g off spot, a = some ⟨g, off, spot⟩ → g ≠ k) : Sl (w.setRow k cs) (.slice a n c) bs := by
  obtain ⟨a', len, c', e, h1, h2, h3, h4, h5⟩ := h
  injection e with e1 e2 e3
  subst e1 e2 e3
  refine ⟨_, _, _, rfl, h1, h2, h3, h4, fun h0 => ?_⟩
  obtain ⟨b, off, e, hl, hc⟩ := h5 h0
  have hb := hne h0 b off none e
  refine ⟨b, off, e, by simpa using hl, fun i hi => ?_⟩
  exact (World.cell?_of_block (a := ⟨b, off + i, none⟩) (setRow_other w k b cs hb)).trans (hc i hi)
/-- What many leaves, opened. -/
theorem many_facts {w w' : World} {e : Ending} (h : ManyP w e w') : ∃ a n cap ys, e = .returned (.slice a n cap) ∧ Below w.heap.size w w' ∧ Sl w' (.slice a n cap) ys ∧ n ≤ cap ∧ (∀ y ∈ ys, y < 256) ∧ ys.length ≤ 7000 ∧ (0 < n → ∀ g off spot, a = some ⟨g, off, spot⟩ → w.heap.size ≤ g ∧ g < w'.heap.size) := by
  obtain ⟨v, ys, rfl, hown, h8, h7, hb⟩ := h
  obtain ⟨a, cap, rfl⟩ := own_shape' hown
  have hm : Mine w' w.heap.size a ys.length cap ys := ⟨hown, rfl, h8⟩
  refine ⟨a, ys.length, cap, ys, rfl, hb, hm.sl (by omega), hm.cap, h8, h7, fun h0 g off spot e => ?_⟩
  rcases hown.2 with ⟨e2, _⟩ | ⟨g', cap', cur, e2, _⟩
  · injection e2 with q1 q2 q3; omega
  · injection e2 with q1 q2 q3
    rw [q1] at e
    injection e with e
    injection e with e4 e5 e6
    subst e4
    exact hown.lt g' (by rw [q1]; rfl)
theorem extract_piece (bs : List Nat) (i : Nat) : (strB bs).extract (i * 512) (min bs.length ((i + 1) * 512)) = strB (Sk.piece bs i) := by
  rw [strB_cut]
  unfold Sk.piece
  rw [Nat.mul_comm 512 i]
  congr 1
  rcases Nat.lt_or_ge bs.length ((i + 1) * 512) with h | h
  · rw [List.take_of_length_le (by rw [List.length_drop]; omega), List.take_of_length_le (by rw [List.length_drop]; omega)]
  · congr 1; omega
theorem rcommit_any (w : World) (G : Nat → Prop) (v : Value) (d : Ek.Dk) (h : DDk w G v d) (hu : d.used < 900000) (bs : List Nat) (h8 : ∀ x ∈ bs, x < 256) (hl : bs.length ≤ 1000000) (S : ByteArray) (hS : S = strB bs) :
    Calls Try.prog 9 #[v, .string S] w (RdP w G (Sk.commit d bs) (Sk.commitE d bs)) := by
  have hok : Ek.Ok d := by obtain ⟨_, _, _, _, _, _, _, ho⟩ := h; exact ho
  have hn8 := hok.hi
  have h' := h.lo
  have HLD := fun W (hb : Below w.heap.size w W) => rload_any W G v d (h.later hb)
  obtain ⟨a, la, c, lc, rfl, _⟩ := id h
  unfold dv at h h' HLD ⊢
  unfold rlv at HLD
  have hsz : S.size = bs.length := by rw [hS, strB_size]
  have hfit : Sk.Fits (Sk.says d) := Sk.fits_told (Ek.now_row hok 0).2
  have few : ∀ er : Int, Sk.commit d bs = d → Sk.commitE d bs = er → Calls Try.prog 9 #[.agg #[.slice a d.n c, .slice la d.loose.length lc, .int .i64 d.left, .bool d.dark], .string S] w (fun e w' => e = .returned (.tuple #[.agg #[.slice a d.n c, .slice la d.loose.length lc, .int .i64 d.left, .bool d.dark], .int .i64 er]) ∧ Below w.heap.size w w') → Calls Try.prog 9 #[.agg #[.slice a d.n c, .slice la d.loose.length lc, .int .i64 d.left, .bool d.dark], .string S] w (RdP w G (Sk.commit d bs) (Sk.commitE d bs)) := fun er e1 e2 hc => by
    rw [e1, e2]
    exact hc.mono fun e w' hp => ⟨⟨_, hp.1, (h.later hp.2).mono (fun _ => Or.inl)⟩, hp.2⟩
  by_cases hE : Sk.loadE d = 0
  · have eg : Sk.loadG d = (Sk.says d).gen := by unfold Sk.loadG; rw [if_pos hE]
    have es : Sk.loadS d = (Sk.says d).slot := by unfold Sk.loadS; rw [if_pos hE]
    have HRM : Hid (∀ W, Calls Try.prog 23 #[.int .i64 (d.n : Int)] W fun e w' => e = .returned (.int .i64 ((Sk.room d.n : Nat) : Int)) ∧ W = w') := fun W => by
      have := rroom_any (d.n : Int) W (by omega) (by omega)
      rwa [Sk.roomI_nat] at this
    rw [eg, es] at HLD
    by_cases hg : (Sk.says d).gen = 4294967295
    · have e0 : Sk.commitE0 d bs = 3 := by unfold Sk.commitE0; rw [if_neg (by simp [hE]), if_pos hg]
      refine few 3 (by unfold Sk.commit; rw [e0, if_neg (by decide)]) (by unfold Sk.commitE; rw [e0, if_neg (by decide)]) ?_
      exact rcommit_b a la d.n c _ lc _ _ S _ _ _ _ hE hg w (Lib.hid HLD)
    · by_cases hr : Sk.room d.n < bs.length
      · have e0 : Sk.commitE0 d bs = 7 := by unfold Sk.commitE0; rw [if_neg (by simp [hE]), if_neg hg, if_pos hr]
        refine few 7 (by unfold Sk.commit; rw [e0, if_neg (by decide)]) (by unfold Sk.commitE; rw [e0, if_neg (by decide)]) ?_
        exact rcommit_c a la d.n c _ lc _ _ S _ _ _ _ hE hg hfit.1 (Sk.room d.n) bs.length hsz hn8 (by omega) hr HRM w (Lib.hid HLD)
      · have e0 : Sk.commitE0 d bs = 0 := by unfold Sk.commitE0; rw [if_neg (by simp [hE]), if_neg hg, if_neg hr]
        have hld := hE
        unfold Sk.loadE at hld
        have hn3 : ¬ d.n < 3 := fun hc => by rw [if_pos hc] at hld; exact absurd hld (by decide)
        rw [if_neg hn3] at hld
        have hdk : ¬ d.dark = true := fun hc => by rw [if_pos hc] at hld; exact absurd hld (by decide)
        rw [if_neg hdk] at hld
        have hbad : ¬ (¬ Sk.Right (Ek.now d 0) ∨ 1 < (Sk.says d).slot ∨ Sk.room d.n < (Sk.says d).size) := fun hc => by rw [if_pos hc] at hld; exact absurd hld (by decide)
        have hsl : (Sk.says d).slot ≤ 1 := by
          rcases Nat.lt_or_ge 1 (Sk.says d).slot with h1 | h1
          · exact absurd (Or.inr (Or.inl h1)) hbad
          · exact h1
        have hbl : bs.length ≤ 1048576 := by unfold Sk.room at hr; split at hr <;> omega
        have hfr : Sk.front d.n (1 - (Sk.says d).slot) = 1 + (1 - (Sk.says d).slot) * Sk.share d.n := rfl
        have hpr8 : ∀ i, ∀ x ∈ Sk.prow bs i, x < 256 := fun i => (Sk.padded_row bs h8 i).2
        have hh8 := (Sk.hrow_row d bs).2
        have hus : ∀ i, (Sk.part d bs i).used ≤ d.used + i := Sk.part_used d bs
        have hPp : Sk.pieces bs ≤ 2048 := by unfold Sk.pieces; omega
        have key := rcommit_main w (fun q => G q ∧ q < w.heap.size) a la d.n c _ lc _ _ (fun k hk => hk.2) S _ (Sk.says d).gen (Sk.says d).slot (Sk.room d.n) bs.length (Sk.share d.n) (Sk.pieces bs) (Sk.front d.n (1 - (Sk.says d).slot)) ((1 - (Sk.says d).slot) * Sk.share d.n) _ hE (by have := hfit.1; omega) hsl hsz hn8 (by omega) hr hbl (Lib.hid HLD) HRM rfl rfl rfl hfr
          (Sk.part d bs) (fun i => Ek.write (Sk.part d bs i) ((Sk.front d.n (1 - (Sk.says d).slot) + i : Nat) : Int) (Sk.prow bs i)) (Sk.partE d bs) (fun i => Ek.writeE (Sk.part d bs i) ((Sk.front d.n (1 - (Sk.says d).slot) + i : Nat) : Int) (Sk.prow bs i)) (Sk.prow bs) (Sk.commit d bs) (Ek.sync (Sk.part d bs (Sk.pieces bs))) (Ek.write (Ek.sync (Sk.part d bs (Sk.pieces bs))) 0 (Sk.hrow d bs)) (Ek.sync (Ek.write (Ek.sync (Sk.part d bs (Sk.pieces bs))) 0 (Sk.hrow d bs))) (Sk.commitE d bs) (Ek.changeE (Sk.part d bs (Sk.pieces bs))) (Ek.writeE (Ek.sync (Sk.part d bs (Sk.pieces bs))) 0 (Sk.hrow d bs)) (Ek.changeE (Ek.write (Ek.sync (Sk.part d bs (Sk.pieces bs))) 0 (Sk.hrow d bs))) (strB (Sk.hrow d bs))
          (fun i hi S hS W v hd => by subst hS; exact rdisk_write_any W _ v _ hd _ (Sk.prow bs i) (hpr8 i) (by have := hus i; omega))
          (fun i hi lo hi' zn e1 e2 e3 => by
            rw [hS, e1, e2, e3]
            have hx := extract_piece bs i
            rw [hx, ← strB_append]
            unfold Sk.prow Sk.padded
            rw [Sk.piece_length]
            congr 3
            omega)
          (fun i hi h1 h2 => Sk.part_succ d bs i h1 h2)
          (fun i hi h1 h2 => Sk.part_fell d bs e0 i hi h1 h2)
          (fun h1 => Sk.part_end d bs e0 _ rfl h1)
          (fun W v hd => rdisk_sync_any W _ v _ hd)
          (fun W v hd => rdisk_write_any W _ v _ hd 0 (Sk.hrow d bs) hh8 (by
            have h1 := Sk.one_usedP (Sk.part d bs (Sk.pieces bs)) .sync
            have h2 := hus (Sk.pieces bs)
            have h3 : (Ek.sync (Sk.part d bs (Sk.pieces bs))).used ≤ (Sk.part d bs (Sk.pieces bs)).used + 1 := h1
            omega))
          (fun W v hd => rdisk_sync_any W _ v _ hd)
          (fun W => by
            have := rheader_any ((Sk.says d).gen + 1) (1 - (Sk.says d).slot) (by have := hfit.1; omega) (by omega) bs h8 hbl S (Lib.hid hS) W
            rw [show (((Sk.says d).gen + 1 : Nat) : Int) = ((Sk.says d).gen : Int) + 1 by omega, show ((1 - (Sk.says d).slot : Nat) : Int) = 1 - ((Sk.says d).slot : Int) by omega] at this
            exact this)
          rfl h'
        refine key.mono fun e w' hp => ?_
        obtain ⟨⟨v', he, hd⟩, hb⟩ := hp
        exact ⟨⟨v', he, hd.mono (fun q hq => hq.imp And.left id)⟩, hb⟩
  · have e0 : Sk.commitE0 d bs = Sk.loadE d := by unfold Sk.commitE0; rw [if_pos hE]
    refine few (Sk.loadE d) (by unfold Sk.commit; rw [e0, if_neg hE]) (by unfold Sk.commitE; rw [e0, if_neg hE]) ?_
    exact rcommit_a a la d.n c _ lc _ _ S _ _ _ _ hE w (Lib.hid HLD)
end Go.Proofs.Ythbiibinmofmfaa
