/- append onto the call's own row from a slice of whatever make, as a step of a region in one order. -/
import Derived.Test.YthbiibinmofmfaaEstr
import Derived.Test.YthbiibinmofmfaaElv
import Derived.Deep.RegionLawGrows

namespace Go.Proofs.Ythbiibinmofmfaa
set_option maxRecDepth 100000
open Go.RowKit


theorem wpList_append_sl {ops : Array Oper} {rest : List Oper} {o : Oper} {a : Act} {w : World} {Q : Exit → Act → World → Prop} (hgd : o.guard = none) (s x : Operand)
    (ho : o.op = .call { callee := .builtin .append, args := #[s, x], argTypes := #[35, 35] })
    (base g0 cap0 n : Nat) (xs : List Value) (hs : a.eval s = .slice (some ⟨g0, 0, none⟩) n cap0) (hown : w.ownsRow base 5 1 (.slice (some ⟨g0, 0, none⟩) n cap0) n xs)
    (sp : Option Addr) (m c : Nat) (bs : List Nat) (hx : a.eval x = .slice sp m c) (hsl : Sl w (.slice sp m c) bs) (hm : n + m ≤ 140737488355328) (hbase : base ≤ w.heap.size)
    (h : ∀ g cap w', Hid (w'.ownsRow base 5 1 (.slice (some ⟨g, 0, none⟩) (n + m) cap) (n + m) (xs ++ vb bs)) → Hid (w.grownBy w' (some g0)) → wpList Try.prog ops Q rest (a.put o.dst (.slice (some ⟨g, 0, none⟩) (n + m) cap)) w') :
    wpList Try.prog ops Q (o :: rest) a w := by
  obtain ⟨i0, hi, hz0, hz1, hz2⟩ := info_parts Try.infoU8
  obtain ⟨hl, hle, hnil⟩ := hsl.len
  obtain ⟨g, cap, w', hrun, r1, r2⟩ := run_append_mine (P := Try.prog) (w := w) base 35 o.type 5 i0 (.int .u8 0) 1 1 Try.underlying35 hi hz0 hz1 hz2 rfl (by decide) g0 cap0 n xs hown sp m c (vb bs)
    (by rw [vb_length]; omega) hnil (fun h0 => hsl.cells h0) (oneCell_vb bs) (by unfold maxLen; omega) (by omega) hbase
  refine wpList_plain hgd fun K hK => ?_
  unfold Oper.wp execOp
  simp only [ho, resolve, invoke, builtin, Sem.run_bind, Sem.run_pure, Result.andThen_ok, List.map_toArray, List.map_cons, List.map_nil, hs, hx, hrun]
  exact hK _ _ (h g cap w' r1 r2)

/-- What the call owns and what is read apart from it: an append onto what it owns leaves the rest as it was. -/
theorem below_grown {B g0 : Nat} {W w w' : World} (hb : Below B W w) (hg : w.grownBy w' (some g0)) (hB : B ≤ g0) (hs : B ≤ w.heap.size) : Below B W w' :=
  hb.grown hg hs (by intro k hk; injection hk; omega)

theorem own_app_zero {w : World} {base : Nat} {e : TypeId} {g c len : Nat} {xs : List Value} (h : w.ownsRow base e 1 (.slice (some ⟨g, 0, none⟩) (0 + len) c) (0 + len) ([] ++ xs)) : w.ownsRow base e 1 (.slice (some ⟨g, 0, none⟩) len c) len xs := by
  simpa using h

theorem own_base {w : World} {base : Nat} {e : TypeId} {g c n : Nat} {xs : List Value} (h : w.ownsRow base e 1 (.slice (some ⟨g, 0, none⟩) n c) n xs) : base ≤ g := by
  rcases h.2 with ⟨h, _⟩ | ⟨g', _, _, h, hb, _⟩
  · simp at h
  · injection h with h1 _ _
    injection h1 with h1
    injection h1 with h1
    omega

theorem Sl.facts {w : World} {s : Value} {bs : List Nat} (h : Sl w s bs) : (∀ x ∈ bs, x < 256) ∧ bs.length ≤ 281474976710656 := by
  obtain ⟨a, len, cap, _, h1, h2, _, h8, _⟩ := h
  exact ⟨h8, h1 ▸ h2⟩

/-- What is owned lies where nothing lay that is read. -/
theorem Sl.grown {g0 : Nat} {w w0 w' : World} {s : Value} {bs : List Nat} (h : Sl w0 s bs) (h0 : Below w0.heap.size w0 w) (hg : w.grownBy w' (some g0)) (hB : w0.heap.size ≤ g0) : Sl w' s bs :=
  h.later (below_grown h0 hg hB h0.size)

/-- append of one byte onto the call's own row, as one step of a region that draws its order. -/
theorem step_append_byte {ops : Array Oper} {o : Oper} {a : Act} {w : World} {K : Act → World → Prop} {Q : Exit → Act → World → Prop} {E : Prop}
    (hg : o.guard = none) (s x : Operand) (hop : o.op = Op.call { callee := Callee.builtin Builtin.append, args := #[s, x], argTypes := #[35, 35] })
    (base : Nat) (v : Value) (n : Nat) (bs : List Nat) (hs : a.eval s = v) (hown : w.ownsRow base 5 1 v n (vb bs))
    (g y : Nat) (hx : a.eval x = .slice (some ⟨g, 0, none⟩) 1 1) (hc : w.cell? ⟨g, 0, none⟩ = some (.int .u8 (y : Int))) (b1 : n + 1 ≤ 140737488355328) (hbase : base ≤ w.heap.size)
    (hK : ∀ v' w', Hid (w'.ownsRow base 5 1 v' (n + 1) (vb (bs ++ [y]))) → Hid (w.grownBy w' v.ownBlock) → K (a.put o.dst v') w') :
    if Region.wanted o (yielded ops a.tmps) = true then Oper.wp Try.prog o a w K Q else E := by
  have hw : Region.wanted o (yielded ops a.tmps) = true := by simp [Region.wanted, hg]
  rw [if_pos hw]
  obtain ⟨i0, hi, hz0, hz1, hz2⟩ := info_parts Try.infoU8
  refine wp_append_own w s x 35 hop base 5 i0 (.int .u8 0) 1 1 Try.underlying35 hi hz0 hz1 hz2 rfl (by decide) v n (vb bs) hs hown ⟨g, 0, none⟩ 1 1 [.int .u8 (y : Int)] hx rfl ?_ ?_ (by unfold maxLen; omega) (by omega) hbase ?_
  · intro j u hj
    match j, hj with
    | 0, hj =>
      simp at hj
      subst hj
      simpa [Addr.add] using hc
  · intro u hu
    simp at hu
    subst hu
    rfl
  · intro v' w' h2 h3 _
    refine hK v' w' ?_ h3
    show World.ownsRow _ _ _ _ _ _ _
    rw [vb_append]
    exact h2

/-- All that was there is as it was, and v reads l. -/
def Kept (w wx : World) (v : Value) (l : List Nat) : Prop := Below w.heap.size w wx ∧ Sl wx v l

theorem kept_drewN {w wx : World} {v : Value} {l : List Nat} (h : Kept w wx v l) (n : Nat) : Kept w (wx.drewN n) v l :=
  ⟨below_drewN h.1 n, h.2⟩
theorem kept_drew {w wx : World} {v : Value} {l : List Nat} (h : Kept w wx v l) : Kept w wx.drew v l := kept_drewN h 1

theorem kept_below {w wx w' : World} {v : Value} {l : List Nat} (h : Kept w wx v l) (hb : Below wx.heap.size wx w') : Kept w w' v l :=
  ⟨h.1.trans (hb.mono h.1.size), h.2.later hb⟩

theorem Sl.take {w : World} {a : Option Addr} {len cap : Nat} {bs : List Nat} (h : Sl w (.slice a len cap) bs) (k : Nat) (hk : k ≤ len) : Sl w (.slice a k cap) (bs.take k) := by
  obtain ⟨a', len', cap', he, h1, h2, h3, h4, h5⟩ := h
  injection he with e1 e2 e3
  subst e1 e2 e3
  refine ⟨_, k, cap, rfl, by rw [List.length_take]; omega, by omega, fun h => ⟨by have := (h3 h).1; omega, (h3 h).2⟩, fun x hx => h4 x (List.mem_of_mem_take hx), fun h0 => ?_⟩
  obtain ⟨b, off, rfl, hlt, hc⟩ := h5 (by omega)
  refine ⟨b, off, rfl, hlt, fun i hi => ?_⟩
  rw [hc i (by omega), List.getElem?_take_of_lt hi]

theorem Sl.drew {w : World} {s : Value} {bs : List Nat} (h : Sl w s bs) : Sl w.drew s bs := h

theorem Sl.at {w : World} {a : Option Addr} {len cap : Nat} {bs : List Nat} (h : Sl w (.slice a len cap) bs) (k : Nat) (hk : k < len) :
    ∃ b off, a = some ⟨b, off, none⟩ ∧ b < w.heap.size ∧ w.cell? ⟨b, off + k, none⟩ = some (.int .u8 ((bs[k]?.getD 0 : Nat) : Int)) ∧ bs[k]?.getD 0 < 256 ∧ k < bs.length := by
  obtain ⟨a', len', cap', he, h1, h2, h3, h4, h5⟩ := h
  injection he with e1 e2 e3
  subst e1 e2 e3
  obtain ⟨b, off, rfl, hlt, hc⟩ := h5 (by omega)
  refine ⟨b, off, rfl, hlt, hc k hk, ?_, by omega⟩
  rw [List.getElem?_eq_getElem (by omega)]
  exact h4 _ (List.getElem_mem _)

end Go.Proofs.Ythbiibinmofmfaa

/- The document's examples of sector. -/
namespace Go.Proofs.Ythbiibinmofmfaa
set_option maxRecDepth 100000
open Go.RowKit

namespace Ek
def X : List Nat := fil 120 512
def Y : List Nat := fil 121 512
def Z : List Nat := fil 122 512
theorem X_length : X.length = 512 := fil_length _ _
theorem Y_length : Y.length = 512 := fil_length _ _
theorem Z_length : Z.length = 512 := fil_length _ _
def v1 : Dk := write (fresh 2) 1 X
def v2 : Dk := sync v1
def v3 : Dk := write v2 1 Y
def v4 : Dk := write v3 0 Z
def v5 : Dk := crash v4 (nth [12])
def v6 : Dk := fuse v5 0
def v7 : Dk := write v6 1 Y
theorem write_ok' {d : Dk} {i : Int} {bs : List Nat} (h1 : 0 ≤ i) (h2 : i < (d.n : Int)) (h3 : bs.length = 512) (h4 : d.dark = false) : write d i bs = change (added d i bs) ∧ writeE d i bs = changeE d := by
  have hb : ¬ Bad d i bs := by unfold Bad; omega
  unfold write writeE
  rw [if_neg hb, if_neg hb, if_neg (by simp [h4]), if_neg (by simp [h4])]
  exact ⟨rfl, rfl⟩
theorem change_free {d : Dk} (h1 : d.dark = false) (h2 : d.left = -1) : change d = d ∧ changeE d = 0 := by
  unfold change changeE
  have : ¬ (d.dark = true ∨ d.left = 0) := by rw [h1, h2]; simp
  rw [if_neg this, if_neg this, if_pos h2]
  exact ⟨rfl, rfl⟩
theorem write_free {d : Dk} {i : Int} {bs : List Nat} (h1 : 0 ≤ i) (h2 : i < (d.n : Int)) (h3 : bs.length = 512) (h4 : d.dark = false) (h5 : d.left = -1) : write d i bs = added d i bs ∧ writeE d i bs = 0 := by
  obtain ⟨a, b⟩ := write_ok' h1 h2 h3 h4
  obtain ⟨c, _⟩ := change_free (d := added d i bs) h4 h5
  obtain ⟨_, e⟩ := change_free h4 h5
  exact ⟨a.trans c, b.trans e⟩
theorem v1_is : v1 = added (fresh 2) 1 X ∧ writeE (fresh 2) 1 X = 0 := write_free (by decide) (by decide) X_length rfl rfl
theorem v2_is : v2 = settled v1 (fun _ => 1) ∧ changeE v1 = 0 := by
  obtain ⟨a, b⟩ := change_free (d := v1) (by rw [v1_is.1]; rfl) (by rw [v1_is.1]; rfl)
  unfold v2 sync
  rw [if_pos b, a]
  exact ⟨rfl, b⟩
theorem v2_p : v2.n = 2 ∧ v2.dark = false ∧ v2.left = -1 ∧ v2.loose = [] ∧ v2.used = 1 ∧ v2.sure = lay (fun _ => zrow) 1 X 512 := by
  rw [v2_is.1, v1_is.1]; exact ⟨rfl, rfl, rfl, rfl, rfl, rfl⟩
theorem v3_is : v3 = added v2 1 Y ∧ writeE v2 1 Y = 0 := write_free (by decide) (by rw [v2_p.1]; decide) Y_length v2_p.2.1 v2_p.2.2.1
theorem v3_p : v3.n = 2 ∧ v3.dark = false ∧ v3.left = -1 ∧ v3.loose = [(1, Y)] ∧ v3.used = 2 ∧ v3.sure = v2.sure := by
  rw [v3_is.1]; exact ⟨v2_p.1, v2_p.2.1, v2_p.2.2.1, by simp [added, v2_p.2.2.2.1], by simp [added, v2_p.2.2.2.2.1], rfl⟩
theorem v4_is : v4 = added v3 0 Z ∧ writeE v3 0 Z = 0 := write_free (by decide) (by rw [v3_p.1]; decide) Z_length v3_p.2.1 v3_p.2.2.1
theorem v4_p : v4.n = 2 ∧ v4.loose = [(1, Y), (0, Z)] ∧ v4.used = 3 ∧ v4.sure = v2.sure := by
  rw [v4_is.1]; exact ⟨v3_p.1, by simp [added, v3_p.2.2.2.1], by simp [added, v3_p.2.2.2.2.1], v3_p.2.2.2.2.2⟩
theorem v5_p : v5.n = 2 ∧ v5.dark = false ∧ v5.left = -1 ∧ v5.loose = [] ∧ v5.used = 3 := ⟨v4_p.1, rfl, rfl, rfl, v4_p.2.2.1⟩
theorem now5 : now v5 1 = Y.take 10 ++ X.drop 10 := by
  have e : v5.sure = settleTo v4.sure v4.loose (nth [12]) v4.loose.length := rfl
  unfold now
  rw [show v5.loose = [] from rfl]
  show v5.sure 1 = _
  rw [e, v4_p.2.1, v4_p.2.2.2, v2_p.2.2.2.2.2]
  have h0 : share 1 (nth [12] 0) = 10 := by decide
  have h1 : share 0 (nth [12] 1) = 0 := by decide
  simp only [settleTo, List.length_cons, List.length_nil, Nat.zero_add, Nat.reduceAdd, List.getElem?_cons_zero, List.getElem?_cons_succ, h0, h1]
  simp only [lay]
  have hx : X.take 512 = X := List.take_of_length_le (by rw [X_length]; exact Nat.le_refl _)
  have hz : zrow.drop 512 = [] := List.drop_of_length_le (by rw [zrow_length]; exact Nat.le_refl _)
  simp [hx, hz]
theorem v6_p : v6.n = 2 ∧ v6.dark = false ∧ v6.left = 0 ∧ v6.loose = [] ∧ v6.used = 3 := ⟨v5_p.1, rfl, rfl, rfl, v5_p.2.2.2.2⟩
theorem v7_is : v7 = { added v6 1 Y with dark := true } ∧ writeE v6 1 Y = 6 := by
  obtain ⟨a, b⟩ := write_ok' (d := v6) (i := 1) (bs := Y) (by decide) (by rw [v6_p.1]; decide) Y_length v6_p.2.1
  refine ⟨?_, ?_⟩
  · unfold v7; rw [a]; unfold change; rw [if_pos (Or.inr (show (added v6 1 Y).left = 0 from rfl))]
  · rw [b]; unfold changeE; rw [if_pos (Or.inr (show v6.left = 0 from rfl))]
theorem v7_p : v7.n = 2 ∧ v7.dark = true ∧ v7.loose.length = 1 := by
  rw [v7_is.1]; exact ⟨v6_p.1, rfl, by simp [added, v6_p.2.2.2.1]⟩
theorem readE5 : readE v5 1 = 0 := by unfold readE; rw [v5_p.1, v5_p.2.1]; decide
theorem readE7 : readE v7 1 = 6 := by unfold readE; rw [v7_p.1, v7_p.2.1]; decide
end Ek
/-- A call on the disk, as the walk of lives takes it: the answer, and the disk behind it. -/
theorem lv_filled_write {w0 w w' : World} {b : Nat} {d : Ek.Dk} {N : Nat} {c n : Nat} {e : Ending} (h : Lv w0 w b d N) (hf : FilPost w c n e w') (hn : n ≤ 1000) (i : Int) (hu : d.used < 1000000) :
    Calls Try.prog 39 #[.pointer (some ⟨b, 0, none⟩), .int .i64 i, .slice (some ⟨w.heap.size, 0, none⟩) n n] w' (LvP w0 b (Ek.write d i (Ek.fil c n)) (.int .i64 (Ek.writeE d i (Ek.fil c n)))) :=
  lv_write (h.top.later hf.2.2.1) i _ _ (hf.sl hn) (fun g off spot len cap e => by injection e with e1 _ _; injection e1 with e1; injection e1 with e1 _ _; omega) hu

theorem ks_one {w : World} {g : Nat} {k : Int} (h : Has w g (.cells #[.int .i64 k] 3 (0, 0))) (hk : -9223372036854775808 ≤ k ∧ k ≤ 9223372036854775807) : Ks w (.slice (some ⟨g, 0, none⟩) 1 1) [k] := by
  refine ⟨_, 1, rfl, by simp, by simpa using hk, fun _ => ⟨g, 0, rfl, fun i hi => ?_⟩⟩
  obtain rfl : i = 0 := by simpa using hi
  rw [h.cell]; rfl

theorem has_sl {w : World} {g : Nat} {t : TypeId} {bs : List Nat} (h : Has w g (.cells (vb bs).toArray t (0, 0))) (h8 : ∀ x ∈ bs, x < 256) (hl : bs.length ≤ 1000000) (n cap : Nat) (hn : n = bs.length) : Sl w (.slice (some ⟨g, 0, none⟩) n cap) bs := by
  refine ⟨_, n, cap, rfl, hn, by omega, fun h => (by cases h), h8, fun _ => ⟨g, 0, rfl, h.lt, fun i hi => ?_⟩⟩
  rw [Nat.zero_add, h.cell, List.getElem?_toArray, vb_get, List.getElem?_eq_getElem (by omega)]
  simp
theorem bytesAt.from {w : World} {g : Nat} {bs : List Nat} (h : bytesAt w g bs) (h8 : ∀ x ∈ bs, x < 256) (hl : bs.length ≤ 1000000) (off n cap : Nat) (hn : off + n = bs.length) : Sl w (.slice (some ⟨g, off, none⟩) n cap) (bs.drop off) := by
  refine ⟨_, n, cap, rfl, by rw [List.length_drop]; omega, by omega, fun h => (by cases h), fun x hx => h8 x (List.mem_of_mem_drop hx), fun _ => ⟨g, off, rfl, h.lt, fun i hi => ?_⟩⟩
  rw [h.cell, List.getElem?_toArray, vb_get, List.getElem?_drop, List.getElem?_eq_getElem (by omega)]
  simp

/-- A disk beside a block g that is not its. -/
def Lx (w0 w : World) (b : Nat) (d : Ek.Dk) (g : Nat) : Prop :=
  ∃ S : Nat → Prop, Dsk w S b d ∧ (∀ k, S k → w0.heap.size ≤ k ∧ k < w.heap.size ∧ k ≠ g) ∧ g < w.heap.size ∧ Below w0.heap.size w0 w
theorem Lx.lv {w0 w : World} {b : Nat} {d : Ek.Dk} {g : Nat} (h : Lx w0 w b d g) : Lv w0 w b d w.heap.size := by
  obtain ⟨S, hd, hs, _, hb⟩ := h
  exact ⟨S, hd, fun k hk => ⟨(hs k hk).1, (hs k hk).2.1⟩, Nat.le_refl _, hb⟩
theorem Lx.later {w0 w w' : World} {b : Nat} {d : Ek.Dk} {g : Nat} (h : Lx w0 w b d g) (hb : Below w.heap.size w w') : Lx w0 w' b d g := by
  obtain ⟨S, hd, hs, hg, hb0⟩ := h
  have := hb.size
  exact ⟨S, hd.later hb, fun k hk => ⟨(hs k hk).1, by have := (hs k hk).2.1; omega, (hs k hk).2.2⟩, by omega, hb0.trans (hb.mono hb0.size)⟩
theorem lx_of {w0 w w' : World} {b : Nat} {d : Ek.Dk} {v : Value} {e : Ending} {S : Nat → Prop} {g : Nat} (hs : ∀ k, S k → w0.heap.size ≤ k ∧ k < w.heap.size ∧ k ≠ g) (hg : g < w.heap.size) (hb : Below w0.heap.size w0 w) (h : DP w S b d v e w') : e = .returned v ∧ Lx w0 w' b d g ∧ w'.heap[g]? = w.heap[g]? := by
  obtain ⟨e1, S', hd, ht, hk⟩ := h
  have h1 := ht.size
  have h0 := hb.size
  refine ⟨e1, ⟨S', hd, fun k hk' => ?_, by omega, ht.below hb (fun k hk => (hs k hk).1) h0⟩, ht.block g hg (fun hS => (hs g hS).2.2 rfl)⟩
  rcases hk k hk' with h | h
  · have := hs k h; exact ⟨this.1, by omega, this.2.2⟩
  · exact ⟨by omega, h.2, by omega⟩
theorem lx_fuse {w0 w : World} {b : Nat} {d : Ek.Dk} {g : Nat} (h : Lx w0 w b d g) (n : Int) (hn9 : n ≤ 9223372036854775807) : Calls Try.prog 13 #[.pointer (some ⟨b, 0, none⟩), .int .i64 n] w fun e w' => e = .returned (.tuple #[]) ∧ Lx w0 w' b (Ek.fuse d n) g ∧ w'.heap[g]? = w.heap[g]? := by
  obtain ⟨S, hd, hS, hn, hb⟩ := h
  exact (fuse_any w S b d n hn9 hd).mono fun e w' hp => lx_of hS hn hb hp
theorem lx_write {w0 w : World} {b : Nat} {d : Ek.Dk} {g : Nat} (h : Lx w0 w b d g) (i : Int) (s : Value) (bs : List Nat) (N : Nat) (hN : w.heap.size ≤ N) (w' : World) (hbw : Below w.heap.size w w') (hs : Sl w' s bs) (hg : ∀ g off spot len cap, s = .slice (some ⟨g, off, spot⟩) len cap → N ≤ g) (hu : d.used < 1000000) :
    Calls Try.prog 39 #[.pointer (some ⟨b, 0, none⟩), .int .i64 i, s] w' fun e w2 => e = .returned (.int .i64 (Ek.writeE d i bs)) ∧ Lx w0 w2 b (Ek.write d i bs) g ∧ w2.heap[g]? = w'.heap[g]? := by
  obtain ⟨S, hd, hS, hn, hb⟩ := h
  have hsz := hbw.size
  exact (write_any w' S b d i bs s (hd.later hbw) hs (fun g off spot len cap e hk => by have := hg g off spot len cap e; have := (hS g hk).2.1; omega) hu).mono fun e w' hp => lx_of (fun k hk => ⟨(hS k hk).1, by have := (hS k hk).2.1; omega, (hS k hk).2.2⟩) (by omega) (hb.trans (hbw.mono hb.size)) hp

end Go.Proofs.Ythbiibinmofmfaa
