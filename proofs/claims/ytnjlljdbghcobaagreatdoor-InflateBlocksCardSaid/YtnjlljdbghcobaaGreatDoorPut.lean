/- Contracts of bits.extend and of the closure that lays one bit. -/
import Derived.Test.YtnjlljdbghcobaaGreatDoorAppm
import Derived.Test.YtnjlljdbghcobaaGreatDoorHcmp
import Derived.Test.YtnjlljdbghcobaaGreatDoorQtail
import Derived.Test.YtnjlljdbghcobaaGreatDoorKheadp
import Derived.Deep.OwnRows
import Derived.Deep.RegionWith
import Derived.Deep.RegionHeld3
import Derived.Deep.DeepCutAuto
import Derived.Deep.DeepFit
import Derived.Lib.MinMax
import Derived.Defers
import Derived.Recover

namespace Go.Proofs.YtnjlljdbghcobaaGreatDoor
set_option maxRecDepth 100000
open Go.RowKit

/-- The cells of a row of bits under way. -/
abbrev rowObj (g m n : Nat) : Obj := .cells #[.slice (some ⟨g, 0, none⟩) m m, .int .i64 (n : Int)] 36 (0, 0)
abbrev bytesObj (bs : List Nat) : Obj := .cells (vb bs).toArray 5 (0, 0)

theorem cell_of_block {w : World} {b : Nat} {cs : Array Value} {t : TypeId} (h : w.heap[b]? = some (.cells cs t (0, 0))) (i : Nat) : w.cell? ⟨b, i, none⟩ = cs[i]? := by
  simp [World.cell?, h]
theorem free_of_block {w : World} {b : Nat} {cs : Array Value} {t : TypeId} (h : w.heap[b]? = some (.cells cs t (0, 0))) (i : Nat) : w.frozen? ⟨b, i, none⟩ = false := by
  simp [World.frozen?, h]

set_option maxHeartbeats 1000000 in
theorem lay_walk (R g m n x c : Nat) (w : World) (_hne : ¬ R = g) (_hne2 : ¬ g = R) (hn : n < 2251799813685248) (hm : n / 8 < m)
    (h0 : w.cell? ⟨R, 0, none⟩ = some (.slice (some ⟨g, 0, none⟩) m m)) (h1 : w.cell? ⟨R, 1, none⟩ = some (.int .i64 (n : Int))) (f1 : w.frozen? ⟨R, 1, none⟩ = false)
    (hg : w.cell? ⟨g, n / 8, none⟩ = some (.int .u8 (x : Int))) (fg : w.frozen? ⟨g, n / 8, none⟩ = false) :
    Calls Tryz.prog 110 #[.int .u8 (c : Int), .pointer (some ⟨R, 0, none⟩)] w fun e w' => e = .returned (.tuple #[]) ∧
      w' = ((w.setCell ⟨g, n / 8, none⟩ (.int .u8 (bits BinOp.or IntKind.u8 (x : Int) ((c : Int) * 2 ^ (n % 8) % 256)))).setCell ⟨R, 1, none⟩ (.int .i64 ((n : Int) + 1))).drew := by
  go_enter Tryz.func110, Tryz.ntmps110
  go_wp2
  go_region
  go_wp2
  go_end0
  exact ⟨rfl, rfl⟩

theorem u8_lay (x n : Nat) (b : Bool) (hx : x < 256) : bits BinOp.or IntKind.u8 (x : Int) ((b.toNat : Int) * 2 ^ (n % 8) % 256) = ((x ||| (b.toNat <<< (n % 8)) : Nat) : Int) := by
  have h : b.toNat <<< (n % 8) < 256 := by
    have h1 : b.toNat ≤ 1 := by cases b <;> simp
    have h2 : 2 ^ (n % 8) ≤ 2 ^ 7 := Nat.pow_le_pow_right (by omega) (by omega)
    rw [Nat.shiftLeft_eq]
    have := Nat.mul_le_mul h1 h2
    omega
  have e : ((b.toNat : Int) * 2 ^ (n % 8) % 256) = ((b.toNat <<< (n % 8) : Nat) : Int) := by
    rw [Nat.shiftLeft_eq] at h ⊢
    have : ((b.toNat : Int) * 2 ^ (n % 8)) = ((b.toNat * 2 ^ (n % 8) : Nat) : Int) := by simp
    rw [this]
    omega
  rw [e]
  exact u8_or_nat _ _ hx h

theorem heap_setCell_self {w : World} {b i : Nat} {cs : Array Value} {t : TypeId} (h : w.heap[b]? = some (.cells cs t (0, 0))) (u : Value) :
    (w.setCell ⟨b, i, none⟩ u).heap[b]? = some (.cells (cs.setIfInBounds i u) t (0, 0)) := by
  simp [World.setCell, Array.getElem?_modify, h]

/-- One bit is laid behind a row under way. -/
theorem lay_any (R g m : Nat) (l : List Bool) (b : Bool) (B : Nat) (w : World) (hRB : B ≤ R) (hgB : B ≤ g) (hm2 : m ≤ 281474976710656) (hm : l.length / 8 < m)
    (hR : w.heap[R]? = some (rowObj g m l.length)) (hg : w.heap[g]? = some (bytesObj (Bs.packTo m l))) :
    Calls Tryz.prog 110 #[.int .u8 (b.toNat : Int), .pointer (some ⟨R, 0, none⟩)] w fun e w' => e = .returned (.tuple #[]) ∧
      w'.heap[R]? = some (rowObj g m (l ++ [b]).length) ∧ w'.heap[g]? = some (bytesObj (Bs.packTo m (l ++ [b]))) ∧ Below B w w' := by
  have hne : ¬ R = g := by
    intro e
    subst e
    rw [hR] at hg
    simp at hg
  have hx := Bs.byteAt_lt l (l.length / 8)
  refine (lay_walk R g m l.length (Bs.byteAt l (l.length / 8)) b.toNat w hne (fun e => hne e.symm) (by omega) hm
    (by rw [cell_of_block hR]; rfl) (by rw [cell_of_block hR]; rfl) (free_of_block hR 1) ?_ (free_of_block hg _)).mono ?_
  · rw [cell_of_block hg]
    have := Bs.packTo_get' m l _ hm
    simp [vb, this]
  · rintro e w' ⟨rfl, rfl⟩
    rw [u8_lay _ _ _ hx]
    refine ⟨rfl, ?_, ?_, ?_⟩
    · have h1 : (w.setCell ⟨g, l.length / 8, none⟩ (.int .u8 ((Bs.byteAt l (l.length / 8) ||| b.toNat <<< (l.length % 8) : Nat) : Int))).heap[R]? = some (rowObj g m l.length) := by
        rw [Below.heap_setCell _ _ _ _ hne]; exact hR
      have h2 := heap_setCell_self (i := 1) h1 (.int .i64 ((l.length : Int) + 1))
      show (World.setCell _ _ _).heap[R]? = _
      rw [h2]
      simp
    · show (World.setCell _ _ _).heap[g]? = _
      rw [Below.heap_setCell _ _ _ _ (fun e => hne e.symm), heap_setCell_self hg, Bs.packTo_snoc]
      simp [vb, List.map_set]
    · exact Below.drew (((Below.refl _ _).setCell (by exact hgB) _).setCell (by exact hRB) _)


theorem made_zero (m : Nat) : madeCells #[Value.int .u8 0] m = (vb (Bs.packTo m [])).toArray := by
  apply Array.ext'
  rw [toList_madeCells_one]
  apply List.ext_getElem?
  intro i
  by_cases h : i < m
  · simp [vb, Bs.packTo, h, Bs.byteAt, Bs.num]
  · simp [vb, Bs.packTo, h]

theorem two_new (W : World) (o1 o2 : Obj) : ((W.alloc o1).alloc o2).drew.heap[W.heap.size]? = some o1 ∧ ((W.alloc o1).alloc o2).drew.heap[W.heap.size + 1]? = some o2 := by
  constructor
  · show ((W.heap.push o1).push o2)[_]? = _
    simp [Array.getElem?_push]
  · show ((W.heap.push o1).push o2)[_]? = _
    rw [Array.getElem?_push, if_pos (by simp)]

theorem below_two (W : World) (o1 o2 : Obj) (B : Nat) (h : B ≤ W.heap.size) : Below B W ((W.alloc o1).alloc o2).drew :=
  Below.drew (((Below.refl _ _).alloc h _).alloc (by simp; omega) _)

/-- The two blocks that the call has laid when its loop begins: the bytes and the row, in whatever order. -/
def Laid (W wx : World) (s7 : Value) (m N : Nat) : Prop :=
  ∃ R g : Nat, s7 = .pointer (some ⟨R, 0, none⟩) ∧ W.heap.size ≤ R ∧ W.heap.size ≤ g ∧ wx.heap[R]? = some (rowObj g m N) ∧ wx.heap[g]? = some (bytesObj (Bs.packTo m [])) ∧ Below W.heap.size W wx

theorem Laid.one (W : World) (m N : Nat) (b : Nat) (hb : b = W.heap.size) : Laid W ((W.alloc (.cells (madeCells #[.int .u8 0] m) 5)).alloc (.cells #[.slice (some ⟨b, 0, none⟩) m m, .int .i64 (N : Int)] 36)).drew (.pointer (some ⟨b + 1, 0, none⟩)) m N := by
  subst hb
  have h := two_new W (.cells (madeCells #[.int .u8 0] m) 5) (.cells #[.slice (some ⟨W.heap.size, 0, none⟩) m m, .int .i64 (N : Int)] 36)
  exact ⟨W.heap.size + 1, W.heap.size, rfl, by omega, by omega, h.2, by rw [h.1, made_zero], below_two _ _ _ _ (Nat.le_refl _)⟩

theorem Laid.two (W : World) (m N : Nat) (b : Nat) (hb : b = W.heap.size) : Laid W ((W.alloc (.cells #[.slice (some ⟨b + 1, 0, none⟩) m m, .int .i64 (N : Int)] 36)).alloc (.cells (madeCells #[.int .u8 0] m) 5)).drew (.pointer (some ⟨b, 0, none⟩)) m N := by
  subst hb
  have h := two_new W (.cells #[.slice (some ⟨W.heap.size + 1, 0, none⟩) m m, .int .i64 (N : Int)] 36) (.cells (madeCells #[.int .u8 0] m) 5)
  exact ⟨W.heap.size, W.heap.size + 1, rfl, by omega, by omega, h.1, by rw [h.2, made_zero], below_two _ _ _ _ (Nat.le_refl _)⟩

theorem splice_zero (m : Nat) (l : List Bool) (h : (l.length + 7) / 8 ≤ m) : splice (vb (Bs.packTo m [])) 0 (vb (Bs.pack l)) = vb (Bs.packTo m l) := by
  unfold splice
  apply List.ext_getElem?
  intro i
  simp only [List.take_zero, List.nil_append, Nat.zero_add, vb_length, Bs.pack_length]
  by_cases h1 : i < (l.length + 7) / 8
  · rw [List.getElem?_append_left (by rw [vb_length, Bs.pack_length]; exact h1), vb_get, vb_get, Bs.packTo_get' m l i (by omega)]
    unfold Bs.pack
    rw [Bs.packTo_get' _ l i h1]
  · rw [List.getElem?_append_right (by rw [vb_length, Bs.pack_length]; omega), List.getElem?_drop, vb_get, vb_get, vb_length, Bs.pack_length]
    have e : (l.length + 7) / 8 + (i - (l.length + 7) / 8) = i := by omega
    rw [e]
    by_cases h2 : i < m
    · rw [Bs.packTo_get' m _ i h2, Bs.packTo_get' m _ i h2]
      have : Bs.byteAt l i = Bs.byteAt [] i := by
        unfold Bs.byteAt
        rw [List.drop_eq_nil_of_le (by omega)]
        simp
      rw [this]
    · rw [List.getElem?_eq_none (by rw [Bs.packTo_length]; omega), List.getElem?_eq_none (by rw [Bs.packTo_length]; omega)]

theorem alloc2_block (w : World) (o1 o2 : Obj) : ((w.alloc o1).alloc o2).heap[w.heap.size]? = some o1 ∧ ((w.alloc o1).alloc o2).heap[w.heap.size + 1]? = some o2 ∧ ∀ i, i < w.heap.size → ((w.alloc o1).alloc o2).heap[i]? = w.heap[i]? := by
  refine ⟨?_, ?_, fun i hi => ?_⟩
  · show ((w.heap.push o1).push o2)[_]? = _
    simp [Array.getElem?_push]
  · show ((w.heap.push o1).push o2)[_]? = _
    rw [Array.getElem?_push, if_pos (by simp)]
  · show ((w.heap.push o1).push o2)[_]? = _
    rw [Array.getElem?_push, if_neg (by simp; omega), Array.getElem?_push, if_neg (by omega)]

theorem Laid.facts {w wx : World} {o1 o2 : Obj} {s7 : Value} {m N : Nat} (h : Laid ((w.alloc o1).alloc o2) wx s7 m N) :
    ∃ R g : Nat, s7 = .pointer (some ⟨R, 0, none⟩) ∧ w.heap.size + 2 ≤ R ∧ w.heap.size + 2 ≤ g ∧ ¬ R = g ∧ w.heap.size + 2 ≤ wx.heap.size ∧ wx.heap[R]? = some (rowObj g m N) ∧ wx.heap[g]? = some (bytesObj (Bs.packTo m [])) ∧
      wx.heap[w.heap.size]? = some o1 ∧ wx.heap[w.heap.size + 1]? = some o2 ∧ Below w.heap.size w wx := by
  obtain ⟨R, g, rfl, h1, h2, hR, hg, hb⟩ := h
  have e : ((w.alloc o1).alloc o2).heap.size = w.heap.size + 2 := by simp
  have h3 := hb.size
  obtain ⟨a1, a2, a3⟩ := alloc2_block w o1 o2
  rw [e] at h1 h2 h3
  refine ⟨R, g, rfl, h1, h2, ?_, h3, hR, hg, ?_, ?_, ⟨hb.os, hb.tape, hb.output, by omega, fun i hi => ?_⟩⟩
  · intro e
    subst e
    rw [hR] at hg
    simp at hg
  · rw [hb.block _ (by omega), a1]
  · rw [hb.block _ (by omega), a2]
  · rw [hb.block _ (by omega), a3 _ hi]

/-- The bits behind a row: as many as i are laid. -/
def more (l : List Bool) (f : Nat → Bool) (i : Nat) : List Bool := l ++ (List.range i).map f
theorem more_zero (l : List Bool) (f : Nat → Bool) : more l f 0 = l := by simp [more]
theorem more_succ (l : List Bool) (f : Nat → Bool) (i : Nat) : more l f (i + 1) = more l f i ++ [f i] := by simp [more, List.range_succ]
theorem more_length (l : List Bool) (f : Nat → Bool) (i : Nat) : (more l f i).length = l.length + i := by simp [more]

/-- What extend leaves: a row in memory of its own; all that was there is as it was. -/
def ExtPost (w : World) (l : List Bool) (f : Nat → Bool) (k m : Nat) (e : Ending) (w' : World) : Prop :=
  ∃ g : Nat, e = .returned (.agg #[.slice (some ⟨g, 0, none⟩) m m, .int .i64 ((more l f k).length : Int)]) ∧ w.heap.size ≤ g ∧ w'.heap[g]? = some (bytesObj (Bs.packTo m (more l f k))) ∧ Below w.heap.size w w'

set_option maxHeartbeats 1000000 in
theorem ext_any (F : FuncId) (hcall : ∀ (args : Array Value) (wx : World), (callFunc F args).run Tryz.prog wx = .ok (.enter F args) wx) (caps : Array Value) (l : List Bool) (f : Nat → Bool) (a : Option Addr) (len cap N k m : Nat) (w : World)
    (hs : Sl w (.slice a len cap) (Bs.pack l)) (hl : Hid (N = l.length)) (hN : N ≤ 1125899906842624) (hk : k ≤ 1125899906842624) (hm : Hid ((N + k + 7) / 8 = m))
    (hnext : Hid (∀ (i : Nat) (wx : World), i < k → Below w.heap.size w wx → Calls Tryz.prog F (#[.int .i64 (i : Int)] ++ caps) wx fun e w' => e = .returned (.int .u8 ((f i).toNat : Int)) ∧ Below wx.heap.size wx w')) :
    Calls Tryz.prog 70 #[.agg #[.slice a len cap, .int .i64 N], .int .i64 k, .func (.func F) #[] caps] w (ExtPost w l f k m) := by
  have hmk := run_make_row' (P := Tryz.prog) 22 5 (.int .u8 0) 1 Tryz.underlying22 Tryz.infoU8 rfl .i64 .i64 m (by have := hm.out; omega) (by have := hm.out; omega)
  have hsz : Hid ((((N : Int) + (k : Int)) / 8 + (((N : Int) + (k : Int)) % 8 + 7) / 8) = (m : Int)) := by
    show _ = _
    rw [← hm.out]; omega
  have hA : 0 ≤ (N : Int) + (k : Int) := by omega
  have hB : (N : Int) + (k : Int) ≤ 9223372036854775807 := by omega
  have hs' := Lib.hid hs
  clear hs
  go_enter Tryz.func70, Tryz.ntmps70
  go_upto_region 1 with fail
  go_cut [7] (fun s7 wx => Laid ((w.alloc (.cells #[.slice a len cap, .int .i64 N] 36)).alloc (.cells #[.slice none 0 0, .int .i64 0] 36)) wx s7 m N)
  case first =>
    have hwr : IntKind.i64.wrap ((N : Int) + (k : Int)) = (N : Int) + (k : Int) := IntWalk.i64_in _ (by omega)
    clear hs' hnext hl hcall
    go_region_held3 (fun wx => wx.cell? ⟨w.heap.size, 1, none⟩ = some (.int .i64 (N : Int))) (go_keep) (first | (go_at_call 109; go_fit (size_is ((N : Int) + (k : Int)) (m : Int) hA hB hsz _); rintro e w' ⟨rfl, rfl⟩))
    all_goals (go_wp2_with fail; go_meet; first | exact Laid.one _ m N (w.heap.size + 1 + 1) (by simp) | exact Laid.two _ m N (w.heap.size + 1 + 1) (by simp))
  case rest =>
    clear hmk hsz hA hB
    obtain ⟨R, g, rfl, hRB, hgB, hne, hsz2, hR, hg, hbox, hres, hb1⟩ := hcut.facts
    clear hcut
    have c0 := cell_of_block hbox 0
    have c1 := cell_of_block hR 0
    simp only [List.getElem?_toArray, List.getElem?_cons_zero] at c0 c1
    have hs2 : Sl wc (.slice a len cap) (Bs.pack l) := hs'.out.later hb1
    have hlen : len = (N + 7) / 8 := by rw [hs2.len.1, Bs.pack_length, hl.out]
    have hmN : (N + 7) / 8 ≤ m := by have := hm.out; omega
    have hn : (vb (Bs.pack l)).length = Nat.min len m := by
      rw [vb_length, Bs.pack_length, ← hl.out]
      show _ = min len m
      omega
    have hpos : 0 < (vb (Bs.pack l)).length → some (⟨g, 0, none⟩ : Addr) = some ⟨g, 0, none⟩ ∧ ∃ ad, a = some ad ∧ ∀ j v, (vb (Bs.pack l))[j]? = some v → wc.cell? (ad.add j) = some v := fun h =>
      ⟨rfl, hs2.cells (by rw [vb_length, Bs.pack_length, ← hl.out] at h; omega)⟩
    have hfit : 0 + (vb (Bs.pack l)).length ≤ (vb (Bs.packTo m [])).length := by
      rw [vb_length, vb_length, Bs.pack_length, Bs.packTo_length, ← hl.out]; omega
    have H1 := Lib.hid hg
    have H2 := Lib.hid hR
    have H3 := Lib.hid hbox
    have H4 := Lib.hid hn
    have H5 := Lib.hid hpos
    have H6 := Lib.hid hfit
    have H7 := Lib.hid hlen
    have H8 := Lib.hid hs2
    have H9 := Lib.hid hres
    have H10 := Lib.hid hb1
    clear hg hR hbox hn hpos hfit hlen hs2 hres hb1
    go_wp2_with (with_reducible refine wpList_copy_only rfl (.tmp 20) (.tmp 22) 22 22 rfl 5 Tryz.underlying22 (by kernel_rfl) (some ⟨g, 0, none⟩) a m m len cap rfl rfl g 0 (vb (Bs.packTo m [])) 5 H1.out (vb (Bs.pack l)) H4.out H5.out H6.out (oneCell_vb _) ?_; intro w2 hg2 ho2)
    have HR2 : Hid (w2.heap[R]? = some (rowObj g m (more l f 0).length)) := by
      show _ = _
      rw [ho2.block R (lt_of_block H2.out) hne, more_zero, ← hl.out]; exact H2.out
    have HG2 : Hid (w2.heap[g]? = some (bytesObj (Bs.packTo m (more l f 0)))) := by
      show _ = _
      rw [more_zero]
      have e := splice_zero m l (by rw [← hl.out]; exact hmN)
      have h := hg2.out
      rw [e] at h
      exact h
    have HB2 : Hid (Below w.heap.size w w2) := ho2.below H10.out (by omega) (by omega)
    have HE2 : Hid (w2.heap[w.heap.size + 1]? = some (.cells #[.slice none 0 0, .int .i64 0] 36 (0, 0))) := by
      show _ = _
      rw [ho2.block _ (by omega) (by omega)]; exact H9.out
    clear hg2 ho2 H1 H2 H3 H4 H5 H6 H7 H8 H9 H10 c0 c1
    go_loopw [26] (fun s26 wr => ∃ i : Nat, i ≤ k ∧ s26 = .int .i64 i ∧ Hid (wr.heap[R]? = some (rowObj g m (more l f i).length)) ∧ Hid (wr.heap[g]? = some (bytesObj (Bs.packTo m (more l f i)))) ∧ Hid (Below (w.heap.size + 2) w2 wr))
      (fun s _ => k - (intOf s).toNat)
    case atStart => exact ⟨0, Nat.zero_le _, rfl, HR2, HG2, Below.refl _ _⟩
    case round =>
      obtain ⟨i, hi, rfl, KR, KG, KB⟩ := hrel
      by_cases hlt : i < k
      · have KN : Hid (Below w.heap.size w wr) := HB2.out.trans (KB.out.mono (by omega))
        have ksz := lt_of_block KG.out
        go_wp2_with fail
        have HC := hnext.out i wr hlt KN.out
        refine HC.mono ?_
        clear HC
        rintro e w3 ⟨rfl, hb3⟩
        have KR3 : Hid (w3.heap[R]? = some (rowObj g m (more l f i).length)) := (hb3.block R (lt_of_block KR.out)).trans KR.out
        have KG3 : Hid (w3.heap[g]? = some (bytesObj (Bs.packTo m (more l f i)))) := (hb3.block g (lt_of_block KG.out)).trans KG.out
        have KB3 : Hid (Below (w.heap.size + 2) w2 w3) := KB.out.trans (hb3.mono (by omega))
        clear hb3
        go_wp2_with fail
        refine (lay_any R g m (more l f i) (f i) (w.heap.size + 2) _ hRB hgB (by have := hm.out; omega) (by rw [more_length, ← hl.out]; have := hm.out; omega) KR3.out KG3.out).mono ?_
        rintro e w4 ⟨rfl, h1, h2, h3⟩
        have KR4 := Lib.hid h1
        have KG4 := Lib.hid h2
        have KB4 := Lib.hid (KB3.out.trans h3)
        clear h1 h2 h3
        go_wp2
        go_roundw
        case rel => exact ⟨i + 1, by omega, by go_num, by rw [more_succ]; exact KR4, by rw [more_succ]; exact KG4, KB4⟩
        case measure => simp [intOf]; omega
      · obtain rfl : i = k := by omega
        have c0 : wr.cell? ⟨R, 0, none⟩ = some (.slice (some ⟨g, 0, none⟩) m m) := by rw [cell_of_block KR.out]; rfl
        have c1 : wr.cell? ⟨R, 1, none⟩ = some (.int .i64 ((more l f i).length : Int)) := by rw [cell_of_block KR.out]; rfl
        have KE : wr.heap[w.heap.size + 1]? = some (.cells #[.slice none 0 0, .int .i64 0] 36 (0, 0)) := (KB.out.block _ (by omega)).trans HE2.out
        have f0 := free_of_block KE 0
        have f1 := free_of_block KE 1
        have e0 : wr.cell? ⟨w.heap.size + 1, 0, none⟩ = some (.slice none 0 0) := by rw [cell_of_block KE]; rfl
        have e1 : wr.cell? ⟨w.heap.size + 1, 1, none⟩ = some (.int .i64 0) := by rw [cell_of_block KE]; rfl
        have KE' := Lib.hid KE
        clear KE
        go_wp2
        refine bodyPost_ret (v := .agg #[.slice (some ⟨g, 0, none⟩) m m, .int .i64 ((more l f i).length : Int)]) (by simp [results, Tryz.results70, go_sem, e0, e1]) rfl ⟨g, rfl, by omega, ?_, ?_⟩
        · rw [Below.heap_setCell _ _ _ _ (by show g ≠ w.heap.size + 1; omega), Below.heap_setCell _ _ _ _ (by show g ≠ w.heap.size + 1; omega)]
          exact KG.out
        · exact ((HB2.out.trans (KB.out.mono (by omega))).setCell (by show w.heap.size ≤ w.heap.size + 1; omega) _).setCell (by show w.heap.size ≤ w.heap.size + 1; omega) _
end Go.Proofs.YtnjlljdbghcobaaGreatDoor

/- Contracts of match: isByte, isCopy, Check, size, fits, tell. -/
namespace Go.Proofs.YtnjlljdbghcobaaGreatDoor
set_option maxRecDepth 100000
open Go.RowKit

/-- A token, as a value. -/
def tkv (t : If.Tk) : Value := .agg #[.int .i64 (t.len : Int), .int .i64 (t.far : Int), .int .u8 (t.lit : Int)]

set_option maxHeartbeats 1000000 in
theorem isByte_any (n d x : Nat) (w : World) : Calls Tryz.prog 108 #[.agg #[.int .i64 (n : Int), .int .i64 (d : Int), .int .u8 (x : Int)]] w fun e w' => e = .returned (.bool (decide (n = 0 ∧ d = 0))) ∧ Below w.heap.size w w' := by
  by_cases h1 : n = 0
  · subst h1
    by_cases h2 : d = 0
    · subst h2
      go_enter Tryz.func108, Tryz.ntmps108
      go_wp2
      go_ret
      exact ⟨rfl, below1 _ _⟩
    · have e : decide ((0 : Nat) = 0 ∧ d = 0) = false := by simp [h2]
      rw [e]
      have d1 : ((d : Int) == 0) = false := by simp; omega
      clear h2 e
      go_enter Tryz.func108, Tryz.ntmps108
      go_wp2
      go_ret
      exact ⟨rfl, below1 _ _⟩
  · have e : decide (n = 0 ∧ d = 0) = false := by simp [h1]
    rw [e]
    have d1 : ((n : Int) == 0) = false := by simp; omega
    clear h1 e
    go_enter Tryz.func108, Tryz.ntmps108
    go_wp2
    go_ret
    exact ⟨rfl, below1 _ _⟩

set_option maxHeartbeats 1000000 in
theorem isCopy_ok (n d : Nat) (w : World) (h1 : 3 ≤ n) (h2 : n ≤ 258) (h3 : 1 ≤ d) (h4 : d ≤ 32768) : Calls Tryz.prog 151 #[.agg #[.int .i64 (n : Int), .int .i64 (d : Int), .int .u8 0]] w fun e w' => e = .returned (.bool true) ∧ Below w.heap.size w w' := by
  have d1 : decide ((d : Int) ≤ 32768) = true := by simp; omega
  go_enter Tryz.func151, Tryz.ntmps151
  go_wp2
  go_ret
  exact ⟨by rw [← d1]; rfl, below1 _ _⟩
theorem tk_cells {w : World} {T : Nat} {a b c : Value} {t : TypeId} (h : Has w T (.cells #[a, b, c] t (0, 0))) : w.cell? ⟨T, 0, none⟩ = some a ∧ w.cell? ⟨T, 1, none⟩ = some b ∧ w.cell? ⟨T, 2, none⟩ = some c :=
  ⟨by rw [h.cell]; rfl, by rw [h.cell]; rfl, by rw [h.cell]; rfl⟩

/-- A token that may be. -/
def Tv (t : If.Tk) : Prop := If.Byt t ∨ If.Cop t

set_option maxHeartbeats 1000000 in
theorem mcheck_ok (t : If.Tk) (w : World) (ht : Tv t) : Calls Tryz.prog 107 #[tkv t] w fun e w' => e = .returned (.int .i64 0) ∧ Below w.heap.size w w' := by
  obtain ⟨n, d, x⟩ := t
  unfold tkv
  rcases ht with ⟨h1, h2, _⟩ | ⟨h0, h1, h2, h3, h4⟩
  · simp only at h1 h2
    subst h1 h2
    go_enter Tryz.func107, Tryz.ntmps107
    go_wp2_with (refine (isByte_any 0 0 x _).mono ?_; rintro e w1 ⟨rfl, hb1⟩)
    go_ret
    exact ⟨rfl, (below1 _ _).trans (hb1.mono (by simp))⟩
  · simp only at h0 h1 h2 h3 h4
    subst h0
    have hb : decide (n = 0 ∧ d = 0) = false := by simp; omega
    have HI := Lib.hid (fun W => isByte_any n d 0 W)
    rw [hb] at HI
    have HC := Lib.hid (fun W => isCopy_ok n d W h1 h2 h3 h4)
    clear hb h1 h2 h3 h4
    go_enter Tryz.func107, Tryz.ntmps107
    go_wp2_with fail
    refine (HI.out _).mono ?_
    rintro e w1 ⟨rfl, hb1⟩
    obtain ⟨hT, hb, _⟩ := facts1 hb1
    obtain ⟨c0, c1, c2⟩ := tk_cells hT
    have HB := Lib.hid hb
    clear hb1 hT hb
    go_wp2_with fail
    refine (HC.out _).mono ?_
    rintro e w2 ⟨rfl, hb2⟩
    go_wp2
    go_ret
    exact ⟨rfl, HB.out.trans (hb2.mono HB.out.size)⟩
theorem size_val (t : If.Tk) (ht : Tv t) : max (t.len : Int) 1 = (If.sz t : Int) := by
  unfold If.sz
  rcases ht with ⟨h1, _⟩ | ⟨_, h1, _⟩
  · rw [if_pos h1, h1]; rfl
  · rw [if_neg (by omega)]; omega
set_option maxHeartbeats 1000000 in
theorem msize_ok (t : If.Tk) (w : World) (ht : Tv t) : Calls Tryz.prog 102 #[tkv t] w fun e w' => e = .returned (.int .i64 (If.sz t : Int)) ∧ Below w.heap.size w w' := by
  have h := size_val t ht
  obtain ⟨n, d, x⟩ := t
  unfold tkv
  generalize If.sz ⟨n, d, x⟩ = z at h ⊢
  have HH := Lib.hid h
  clear h ht
  go_enter Tryz.func102, Tryz.ntmps102
  go_wp2
  go_ret
  exact ⟨by rw [← HH.out]; rfl, below1 _ _⟩

set_option maxHeartbeats 2000000 in
theorem fits_ok (t : If.Tk) (n most : Nat) (w : World) (ht : Tv t) (h1 : t.far ≤ n) (h2 : n + If.sz t ≤ most) (h3 : most ≤ 65536) :
    Calls Tryz.prog 68 #[tkv t, .int .i64 (n : Int), .int .i64 (most : Int)] w fun e w' => e = .returned (.int .i64 0) ∧ Below w.heap.size w w' := by
  obtain ⟨z, hz⟩ : ∃ z, z = If.sz t := ⟨_, rfl⟩
  have HC := Lib.hid (fun W => mcheck_ok t W ht)
  have HS := Lib.hid (fun W => msize_ok t W ht)
  rw [← hz] at HS h2
  obtain ⟨len, d, x⟩ := t
  unfold tkv at *
  simp only at h1 HC HS ⊢
  have d1 : decide ((d : Int) > (n : Int)) = false := by simp; omega
  have d2 : decide ((n : Int) < (d : Int)) = false := by simp; omega
  have d3 : decide (n < d) = false := by simp; omega
  have e1 : decide ((most : Int) < ((n + z : Nat) : Int)) = false := by simp; omega
  have e2 : decide (most < n + z) = false := by simp; omega
  clear ht hz
  go_enter Tryz.func68, Tryz.ntmps68
  go_wp2_with fail
  refine (HC.out _).mono ?_
  rintro e w1 ⟨rfl, hb1⟩
  obtain ⟨hT, hb, _⟩ := facts1 hb1
  obtain ⟨c0, c1, c2⟩ := tk_cells hT
  have HB := Lib.hid hb
  clear hb1 hT hb
  go_wp2_with fail
  refine (HS.out _).mono ?_
  rintro e w2 ⟨rfl, hb2⟩
  have HB2 := Lib.hid (HB.out.trans (hb2.mono HB.out.size))
  clear hb2
  go_wp2
  go_ret
  exact ⟨rfl, HB2.out⟩

theorem own_ne_ty {w : World} {base n b : Nat} {v : Value} {e : TypeId} {size : Nat} {xs : List Value} {cs : Array Value} {fr : Nat × Nat} {t : TypeId} (h : w.ownsRow base e size v n xs) (hb : Has w b (.cells cs t fr)) (ht : t ≠ e) : v.ownBlock ≠ some b := by
  rcases h.2 with ⟨rfl, _⟩ | ⟨g, cap, cur, rfl, _, hg, _⟩
  · simp [Value.ownBlock]
  · intro e'
    simp only [Value.ownBlock, Option.some.injEq] at e'
    subst e'
    have hb' : w.heap[g]? = some (.cells cs t fr) := hb
    rw [hg] at hb'
    simp only [Option.some.injEq, Obj.cells.injEq] at hb'
    exact ht hb'.2.1.symm

/-- append of one byte onto the call's own row, in a region that goes in one order. -/
theorem wpList_append_byte {ops : Array Oper} {rest : List Oper} {o : Oper} {a : Act} {w : World} {Q : Exit → Act → World → Prop} (hgd : o.guard = none) (s x : Operand)
    (ho : o.op = .call { callee := .builtin .append, args := #[s, x], argTypes := #[22, 22] })
    (base : Nat) (v : Value) (n : Nat) (bs : List Nat) (hs : a.eval s = v) (hown : w.ownsRow base 5 1 v n (vb bs))
    (g y : Nat) (hx : a.eval x = .slice (some ⟨g, 0, none⟩) 1 1) (hc : w.cell? ⟨g, 0, none⟩ = some (.int .u8 (y : Int))) (b1 : n + 1 ≤ 140737488355328) (hbase : base ≤ w.heap.size)
    (h : ∀ v' w', Hid (w'.ownsRow base 5 1 v' (n + 1) (vb (bs ++ [y]))) → Hid (w.grownBy w' v.ownBlock) → wpList Tryz.prog ops Q rest (a.put o.dst v') w') :
    wpList Tryz.prog ops Q (o :: rest) a w := by
  obtain ⟨i0, hi, hz0, hz1, hz2⟩ := info_parts Tryz.infoU8
  refine wpList_append_own w hgd s x 22 ho base 5 i0 (.int .u8 0) 1 1 Tryz.underlying22 hi hz0 hz1 hz2 rfl (by decide) v n (vb bs) hs hown ⟨g, 0, none⟩ 1 1 [.int .u8 (y : Int)] hx rfl ?_ ?_ (by unfold maxLen; omega) (by omega) hbase ?_
  · intro j u hj
    match j, hj with
    | 0, hj =>
      simp at hj
      subst hj
      simpa [Addr.add] using hc
  · intro u hu
    simp at hu
    subst hu
    rfl
  · intro v' w' h2 h3 _
    refine h v' w' ?_ h3
    show World.ownsRow _ _ _ _ _ _ _
    rw [vb_append]
    exact h2

theorem own_shape {w : World} {base : Nat} {e : TypeId} {size : Nat} {v : Value} {n : Nat} {xs : List Value} (h : w.ownsRow base e size v n xs) : ∃ a cap, v = .slice a n cap := by
  rcases h.2 with ⟨rfl, rfl⟩ | ⟨g, cap, cur, rfl, _⟩
  · exact ⟨_, _, rfl⟩
  · exact ⟨_, _, rfl⟩

end Go.Proofs.YtnjlljdbghcobaaGreatDoor

/- Contracts of header.need, of header.caught and what it defers. -/
namespace Go.Proofs.YtnjlljdbghcobaaGreatDoor
set_option maxRecDepth 100000
open Go.RowKit

/-- A panic with an error's number. -/
def Pan (c : Int) : List PanicEntry := [{ v := .iface 24 (.int .i64 c), recovered := false }]

set_option maxHeartbeats 1000000 in
theorem needInt_ok (x : Int) (w : World) : Calls Tryz.prog 230 #[.int .i64 x, .int .i64 0] w fun e w' => e = .returned (.int .i64 x) ∧ w = w' := by
  go_enter Tryz.func230, Tryz.ntmps230
  go_wp2
  go_ret
  exact ⟨rfl, rfl⟩
set_option maxHeartbeats 1000000 in
theorem needInt_bad (x : Int) (c : Int) (hc : c ≠ 0) (w : World) : Calls Tryz.prog 230 #[.int .i64 x, .int .i64 c] w fun e w' => e = .panicked (Pan c) ∧ w = w' := by
  have d1 : (c != 0) = true := by rw [bne_iff_ne]; exact hc
  clear hc
  go_enter Tryz.func230, Tryz.ntmps230
  go_wp2
  exact ⟨rfl, rfl, rfl⟩

set_option maxHeartbeats 1000000 in
theorem needInts_ok (v : Value) (w : World) : Calls Tryz.prog 143 #[v, .int .i64 0] w fun e w' => e = .returned v ∧ w = w' := by
  go_enter Tryz.func143, Tryz.ntmps143
  go_wp2
  go_ret
  exact ⟨rfl, rfl⟩
set_option maxHeartbeats 1000000 in
theorem needInts_bad (v : Value) (c : Int) (hc : c ≠ 0) (w : World) : Calls Tryz.prog 143 #[v, .int .i64 c] w fun e w' => e = .panicked (Pan c) ∧ w = w' := by
  have d1 : (c != 0) = true := by rw [bne_iff_ne]; exact hc
  clear hc
  go_enter Tryz.func143, Tryz.ntmps143
  go_wp2
  exact ⟨rfl, rfl, rfl⟩

set_option maxHeartbeats 1000000 in
theorem needTab_ok (a : Option Addr) (w : World) : Calls Tryz.prog 217 #[.pointer a, .int .i64 0] w fun e w' => e = .returned (.pointer a) ∧ w = w' := by
  go_enter Tryz.func217, Tryz.ntmps217
  go_wp2
  go_ret
  exact ⟨rfl, rfl⟩
set_option maxHeartbeats 1000000 in
theorem needTab_bad (a : Option Addr) (c : Int) (hc : c ≠ 0) (w : World) : Calls Tryz.prog 217 #[.pointer a, .int .i64 c] w fun e w' => e = .panicked (Pan c) ∧ w = w' := by
  have d1 : (c != 0) = true := by rw [bne_iff_ne]; exact hc
  clear hc
  go_enter Tryz.func217, Tryz.ntmps217
  go_wp2
  exact ⟨rfl, rfl, rfl⟩


theorem assert_errno (c : Int) (W : World) : (Instr.typeAssert (.iface 24 (.int .i64 c)) 20 24 false).run Tryz.prog W = .ok (.int .i64 c) W := by kernel_rfl

theorem catch_panicking (p : Addr) (c x : Int) (older : List PanicEntry) (w : World) (hc : w.cell? p = some (.int .i64 x)) (hz : w.frozen? p = false) :
    CallsD Tryz.prog 141 #[.pointer (some p)] (.panicking ({ v := .iface 24 (.int .i64 c), recovered := false } :: older)) w fun e u' w' =>
      e = .returned (.tuple #[]) ∧ u' = .panicking ({ v := .iface 24 (.int .i64 c), recovered := true } :: older) ∧ w' = w.setCell p (.int .i64 c) := by
  refine callsD_of_wpS Tryz.func141 rfl fun c₀ cs hu => ?_
  apply wpS_seq
  apply wpS_region
  simp [wpOpsS, go_sem, recoverD, hu, Tryz.ntmps141, Exit.thenS, Array.replicate_succ, Array.replicate_zero]
  apply wpS_seq
  apply wpS_region
  simp [wpOpsS, go_sem, Exit.thenS]
  refine wpS_cond (t := true) (by simp [Act.eval]) ?_
  simp only [if_true]
  apply wpS_region
  simp [wpOpsS, go_sem, hc, hz, assert_errno, bodyPostS, results, Tryz.results141]

theorem catch_idle (p : Addr) (w : World) :
    CallsD Tryz.prog 141 #[.pointer (some p)] .returning w fun e u' w' => e = .returned (.tuple #[]) ∧ u' = .returning ∧ w' = w := by
  refine callsD_of_wpS Tryz.func141 rfl fun c₀ cs hu => ?_
  apply wpS_seq
  apply wpS_region
  simp [wpOpsS, go_sem, recoverD, hu, Tryz.ntmps141, Exit.thenS, Array.replicate_succ, Array.replicate_zero]
  apply wpS_seq
  apply wpS_region
  simp [wpOpsS, go_sem, Exit.thenS]
  refine wpS_cond (t := false) (by simp [Act.eval]) ?_
  simp only [Bool.false_eq_true, if_false]
  refine wpS_of_wp (wp_skip ?_)
  cases c₀
  simp_all [bodyPostS, results, Tryz.results141]

set_option maxHeartbeats 1000000 in
theorem caught_ok (F : FuncId) (caps : Array Value) (w : World) (Q : World → Prop) (hcall : ∀ args w, (callFunc F args).run Tryz.prog w = .ok (.enter F args) w)
    (hdo : Calls Tryz.prog F caps (w.alloc (.cells #[.int .i64 0] 24)) fun e w' => e = .returned (.tuple #[]) ∧ Has w' w.heap.size (.cells #[.int .i64 0] 24 (0, 0)) ∧ Q w') :
    Calls Tryz.prog 97 #[.func (.func F) #[] caps] w fun e w' => e = .returned (.int .i64 0) ∧ ∃ w2, Q w2 ∧ w' = w2.setCell ⟨w.heap.size, 0, none⟩ (.int .i64 0) := by
  have hmf : ∀ (fn : Fn) (first cap : Array Value) (w : World), (Instr.makeFunc fn first cap).run Tryz.prog w = .ok (.func fn first cap) w := fun _ _ _ _ => rfl
  have HD := Lib.hid hdo
  clear hdo
  go_enter_defers Tryz.func97, Tryz.ntmps97
  go_wp2_with fail
  refine HD.out.mono ?_
  clear HD
  rintro e w2 ⟨rfl, hx, hq⟩
  obtain ⟨c0, z0⟩ := hx.one
  have HQ := Lib.hid hq
  have HX := Lib.hid hx
  clear hx hq
  go_wp2
  refine leaves_cons (f := 141) (args := #[.pointer (some ⟨w.heap.size, 0, none⟩)]) (by simp) (by simp [go_sem]) ?_
  refine (catch_idle ⟨w.heap.size, 0, none⟩ _).mono ?_
  rintro e u' w'' ⟨rfl, rfl, rfl⟩
  have c1 := ((HX.out.setSelf (i := 0) (.int .i64 0))).cell 0
  simp at c1
  simp [Leaves, settle, results, Tryz.results97, go_sem, c1]
  exact ⟨w2, HQ.out, rfl⟩

set_option maxHeartbeats 1000000 in
theorem caught_bad (F : FuncId) (caps : Array Value) (w : World) (c : Int) (Q : World → Prop) (hcall : ∀ args w, (callFunc F args).run Tryz.prog w = .ok (.enter F args) w)
    (hdo : Calls Tryz.prog F caps (w.alloc (.cells #[.int .i64 0] 24)) fun e w' => e = .panicked (Pan c) ∧ Has w' w.heap.size (.cells #[.int .i64 0] 24 (0, 0)) ∧ Q w') :
    Calls Tryz.prog 97 #[.func (.func F) #[] caps] w fun e w' => e = .returned (.int .i64 c) ∧ ∃ w2, Q w2 ∧ w' = w2.setCell ⟨w.heap.size, 0, none⟩ (.int .i64 c) := by
  have hmf : ∀ (fn : Fn) (first cap : Array Value) (w : World), (Instr.makeFunc fn first cap).run Tryz.prog w = .ok (.func fn first cap) w := fun _ _ _ _ => rfl
  have HD := Lib.hid hdo
  clear hdo
  go_enter_defers Tryz.func97, Tryz.ntmps97
  go_wp2_with fail
  refine HD.out.mono ?_
  clear HD
  rintro e w2 ⟨rfl, hx, hq⟩
  obtain ⟨c0, z0⟩ := hx.one
  have HQ := Lib.hid hq
  have HX := Lib.hid hx
  clear hx hq
  unfold Pan
  refine leaves_cons (f := 141) (args := #[.pointer (some ⟨w.heap.size, 0, none⟩)]) (by simp) (by simp [go_sem]) ?_
  refine (catch_panicking ⟨w.heap.size, 0, none⟩ c 0 [] _ c0 z0).mono ?_
  rintro e u' w'' ⟨rfl, rfl, rfl⟩
  have c1 := ((HX.out.setSelf (i := 0) (.int .i64 c))).cell 0
  simp at c1
  simp [Leaves, settle, results, Tryz.results97, go_sem, c1]
  exact ⟨w2, HQ.out, rfl⟩
end Go.Proofs.YtnjlljdbghcobaaGreatDoor

/- Contracts of bits.Put, Join, Align and Of, and of the closures that tell their bits. -/
namespace Go.Proofs.YtnjlljdbghcobaaGreatDoor
set_option maxRecDepth 100000
open Go.RowKit

theorem i64_and1 (n : Int) : bits .and .i64 n 1 = n % 2 := by
  have h1 : (BitVec.ofInt 64 1).toNat = 2 ^ 1 - 1 := by decide
  have key : (BitVec.ofInt 64 n &&& BitVec.ofInt 64 1).toNat = (n % ((2 ^ 64 : Nat) : Int)).toNat % 2 ^ 1 := by
    rw [BitVec.toNat_and, BitVec.toNat_ofInt, h1, Nat.and_two_pow_sub_one_eq_mod]
  show IntKind.i64.wrap ((BitVec.ofInt 64 n &&& BitVec.ofInt 64 1).toNat : Nat) = n % 2
  rw [key, IntKind.wrap_i64]
  omega

theorem bit_mod (v i : Nat) : v / 2 ^ i % 2 = (v.testBit i).toNat := by
  rw [Nat.testBit_eq_decide_div_mod_eq]
  rcases Nat.mod_two_eq_zero_or_one (v / 2 ^ i) with h | h <;> simp [h]

theorem bit_int (v i : Nat) : ((v : Int) / 2 ^ i) % 2 = ((v.testBit i).toNat : Int) := by
  rw [← bit_mod]
  have e : ((v : Int) / 2 ^ i) = ((v / 2 ^ i : Nat) : Int) := by simp
  rw [e]
  omega

theorem ret_int {k : IntKind} {a b : Int} (h : a = b) : Ending.returned (.int k a) = .returned (.int k b) := by rw [h]

set_option maxHeartbeats 400000 in
theorem putBit (V i v : Nat) (w : World) (hi : i < 64) (hc : w.cell? ⟨V, 0, none⟩ = some (.int .i64 (v : Int))) :
    Calls Tryz.prog 172 (#[.int .i64 (i : Int)] ++ #[.pointer (some ⟨V, 0, none⟩)]) w fun e w' => e = .returned (.int .u8 ((v.testBit i).toNat : Int)) ∧ w = w' := by
  show Calls Tryz.prog 172 #[.int .i64 (i : Int), .pointer (some ⟨V, 0, none⟩)] w _
  have hb := bit_int v i
  have hlt := Bool.toNat_lt (v.testBit i)
  go_enter Tryz.func172, Tryz.ntmps172
  go_wp2
  go_ret
  exact ⟨ret_int (by rw [i64_and1]; omega), rfl⟩

set_option maxHeartbeats 400000 in
theorem fits_any (v n : Int) (h : n ≤ 32) (w : World) :
    Calls Tryz.prog 171 #[.int .i64 v, .int .i64 n] w fun e w' => e = .returned (.bool (decide (0 ≤ n ∧ 0 ≤ v ∧ v / 2 ^ n.toNat = 0))) ∧ w = w' := by
  by_cases h1 : 0 ≤ n
  · by_cases h2 : 0 ≤ v
    · by_cases h3 : v / 2 ^ n.toNat = 0
      · have e : decide (0 ≤ n ∧ 0 ≤ v ∧ v / 2 ^ n.toNat = 0) = true := decide_eq_true ⟨h1, h2, h3⟩
        rw [e]
        exact fits_yes v n h1 h2 h h3 w
      · have e : decide (0 ≤ n ∧ 0 ≤ v ∧ v / 2 ^ n.toNat = 0) = false := decide_eq_false fun h => h3 h.2.2
        have h4 : (v / 2 ^ n.toNat == 0) = false := by simpa using h3
        rw [e]
        clear e h3
        go_enter Tryz.func171, Tryz.ntmps171
        go_wp2
        go_ret
        exact ⟨rfl, rfl⟩
    · have e : decide (0 ≤ n ∧ 0 ≤ v ∧ v / 2 ^ n.toNat = 0) = false := decide_eq_false fun h => h2 h.2.1
      have h4 : decide (0 ≤ v) = false := by simpa using h2
      rw [e]
      clear e
      go_enter Tryz.func171, Tryz.ntmps171
      go_wp2
      go_ret
      exact ⟨rfl, rfl⟩
  · have e : decide (0 ≤ n ∧ 0 ≤ v ∧ v / 2 ^ n.toNat = 0) = false := decide_eq_false fun h => h1 h.1
    have h4 : decide (0 ≤ n) = false := by simpa using h1
    rw [e]
    clear e
    go_enter Tryz.func171, Tryz.ntmps171
    go_wp2
    go_ret
    exact ⟨rfl, rfl⟩

theorem fits_is (v n : Int) (z : Bool) (h : n ≤ 32) (hz : Hid (decide (0 ≤ n ∧ 0 ≤ v ∧ v / 2 ^ n.toNat = 0) = z)) (w : World) :
    Calls Tryz.prog 171 #[.int .i64 v, .int .i64 n] w fun e w' => e = .returned (.bool z) ∧ w = w' := hz.out ▸ fits_any v n h w

/-- What is answered where a row is refused. -/
def NoRow (w : World) (c : Int) (e : Ending) (w' : World) : Prop := e = .returned (.tuple #[.agg #[.slice none 0 0, .int .i64 0], .int .i64 c]) ∧ Below w.heap.size w w'

/-- What is answered where a row is made: it lies in memory of its own. -/
def RowPost (w : World) (l : List Bool) (e : Ending) (w' : World) : Prop :=
  ∃ g m : Nat, e = .returned (.tuple #[.agg #[.slice (some ⟨g, 0, none⟩) m m, .int .i64 (l.length : Int)], .int .i64 0]) ∧ m = (l.length + 7) / 8 ∧ w.heap.size ≤ g ∧ Has w' g (bytesObj (Bs.pack l)) ∧ Below w.heap.size w w'

theorem set2_below {B : Nat} {w w1 : World} (kb : Below B w w1) (b : Nat) (hb : B ≤ b) (x y : Value) : Below B w ((w1.setCell ⟨b, 0, none⟩ x).setCell ⟨b, 1, none⟩ y) :=
  (kb.setCell (by exact hb) _).setCell (by exact hb) _

set_option maxHeartbeats 1000000 in
theorem put_check (s : Value) (bs : List Nat) (N v n : Int) (w : World) (hs : Sl w s bs) (hN : N ≤ 9223372036854775807) (hr : ¬ (0 ≤ N ∧ Bs.right bs N.toNat)) :
    Calls Tryz.prog 128 #[.agg #[s, .int .i64 N], .int .i64 v, .int .i64 n] w (NoRow w 2) := by
  have HS := Lib.hid hs
  have HR := Lib.hid hr
  clear hs hr
  obtain ⟨a, len, cap, rfl, hl⟩ := HS.out.shape
  clear hl
  go_enter Tryz.func128, Tryz.ntmps128
  go_wp2_with fail
  refine (check_bad _ bs N _ (HS.out.later (below3 _ _ _ _)) hN HR.out).mono ?_
  rintro e w1 ⟨rfl, hb1⟩
  obtain ⟨k1, k2, k3, kb, ks⟩ := facts3 hb1
  clear hb1
  obtain ⟨c0, c1, f0, f1⟩ := k3.two
  go_wp2
  exact bodyPost_ret (v := .tuple #[.agg #[.slice none 0 0, .int .i64 0], .int .i64 2]) (by simp [results, Tryz.results128, go_sem, c0, c1]) rfl ⟨rfl, set2_below kb _ (by omega) _ _⟩

set_option maxHeartbeats 1000000 in
theorem put_fit (s : Value) (bs : List Nat) (N : Nat) (v n : Int) (w : World) (hs : Sl w s bs) (hN : N ≤ 9223372036854775807) (hr : Bs.right bs N) (hf : n ≤ 32 → Hid (decide (0 ≤ n ∧ 0 ≤ v ∧ v / 2 ^ n.toNat = 0) = false)) :
    Calls Tryz.prog 128 #[.agg #[s, .int .i64 N], .int .i64 v, .int .i64 n] w (NoRow w 2) := by
  have HS := Lib.hid hs
  have HR := Lib.hid hr
  have HF := Lib.hid hf
  clear hs hr hf
  obtain ⟨a, len, cap, rfl, hl⟩ := HS.out.shape
  clear hl
  go_enter Tryz.func128, Tryz.ntmps128
  go_wp2_with fail
  refine (check_ok _ bs N _ (HS.out.later (below3 _ _ _ _)) hN HR.out).mono ?_
  rintro e w1 ⟨rfl, hb1⟩
  obtain ⟨k1, k2, k3, kb, ks⟩ := facts3 hb1
  clear hb1
  obtain ⟨c0, c1, f0, f1⟩ := k3.two
  obtain ⟨b0, g0⟩ := k2.one
  by_cases h32 : n ≤ 32
  · go_wp2_with (go_at_call 171; refine (fits_is v n false h32 (HF.out h32) _).mono ?_; rintro e w2 ⟨rfl, rfl⟩)
    exact bodyPost_ret (v := .tuple #[.agg #[.slice none 0 0, .int .i64 0], .int .i64 2]) (by simp [results, Tryz.results128, go_sem, c0, c1]) rfl ⟨rfl, set2_below kb _ (by omega) _ _⟩
  · go_wp2
    exact bodyPost_ret (v := .tuple #[.agg #[.slice none 0 0, .int .i64 0], .int .i64 2]) (by simp [results, Tryz.results128, go_sem, c0, c1]) rfl ⟨rfl, set2_below kb _ (by omega) _ _⟩

set_option maxHeartbeats 1000000 in
theorem put_ok (s : Value) (l : List Bool) (v n : Nat) (w : World) (hs : Sl w s (Bs.pack l)) (hN : Hid (l.length ≤ 1125899906842624)) (hn : n ≤ 32) (hv : Hid (v < 2 ^ n)) (N : Nat) (hl : Hid (N = l.length)) :
    Calls Tryz.prog 128 #[.agg #[s, .int .i64 (N : Int)], .int .i64 (v : Int), .int .i64 (n : Int)] w (RowPost w (l ++ Bs.bitsOf v n)) := by
  have HS := Lib.hid hs
  have HF : Hid (decide (0 ≤ (n : Int) ∧ 0 ≤ (v : Int) ∧ (v : Int) / 2 ^ (n : Int).toNat = 0) = true) := by
    refine decide_eq_true ⟨by omega, by omega, ?_⟩
    have e : ((v : Int) / 2 ^ (n : Int).toNat) = ((v / 2 ^ n : Nat) : Int) := by simp
    rw [e, Nat.div_eq_of_lt hv.out]
    rfl
  clear hs
  obtain ⟨a, len, cap, rfl, hl'⟩ := HS.out.shape
  clear hl'
  have hN2 : N ≤ 1125899906842624 := by have := hl.out; have := hN.out; omega
  go_enter Tryz.func128, Tryz.ntmps128
  go_wp2_with fail
  refine (check_ok _ (Bs.pack l) N _ (HS.out.later (below3 _ _ _ _)) (by omega) (by rw [hl.out]; exact Bs.pack_right l)).mono ?_
  rintro e w1 ⟨rfl, hb1⟩
  obtain ⟨k1, k2, k3, kb, ks⟩ := facts3 hb1
  clear hb1
  obtain ⟨c0, c1, f0, f1⟩ := k1.two
  obtain ⟨b0, g0⟩ := k2.one
  have hi32 : (n : Int) ≤ 32 := by omega
  go_wp2_with (go_at_call 171; refine (fits_is (v : Int) (n : Int) true hi32 HF _).mono ?_; rintro e w2 ⟨rfl, rfl⟩)
  have HX : Hid (∀ (i : Nat) (wx : World), i < n → Below w1.heap.size w1 wx → Calls Tryz.prog 172 (#[.int .i64 (i : Int)] ++ #[.pointer (some ⟨w.heap.size + 1, 0, none⟩)]) wx fun e w' => e = .returned (.int .u8 ((v.testBit i).toNat : Int)) ∧ Below wx.heap.size wx w') := by
    intro i wx hi hb
    refine (putBit (w.heap.size + 1) i v wx (by omega) (k2.later hb).one.1).mono ?_
    rintro e w' ⟨rfl, rfl⟩
    exact ⟨rfl, Below.refl _ _⟩
  refine (ext_any 172 Tryz.call172 _ l v.testBit a len cap N n ((N + n + 7) / 8) w1 (HS.out.later kb) hl hN2 (by omega) rfl HX).mono ?_
  clear HX HF c0 c1 f0 f1 b0 g0
  rintro e w3 ⟨g, rfl, hg, hh, hb3⟩
  have HH := Lib.hid hh
  have k4 := k3.later hb3
  have kb4 := kb.trans (hb3.mono (by omega))
  clear hh k1 k2 k3 kb hb3
  obtain ⟨c0, c1, f0, f1⟩ := k4.two
  go_wp2
  refine bodyPost_ret (v := .tuple #[.agg #[.slice (some ⟨g, 0, none⟩) ((N + n + 7) / 8) ((N + n + 7) / 8), .int .i64 ((more l v.testBit n).length : Int)], .int .i64 0]) (by simp [results, Tryz.results128, go_sem, c0, c1]) rfl ⟨g, (N + n + 7) / 8, rfl, ?_, by omega, ?_, set2_below kb4 _ (by omega) _ _⟩
  · simp [Bs.bitsOf_length, hl.out]
  · refine Has.set (Has.set ?_ (by show g ≠ w.heap.size + 1 + 1; omega) _) (by show g ≠ w.heap.size + 1 + 1; omega) _
    have e : Bs.pack (l ++ Bs.bitsOf v n) = Bs.packTo ((N + n + 7) / 8) (more l v.testBit n) := by
      unfold Bs.pack
      rw [List.length_append, Bs.bitsOf_length, ← hl.out]
      rfl
    rw [e]
    exact HH.out
end Go.Proofs.YtnjlljdbghcobaaGreatDoor
