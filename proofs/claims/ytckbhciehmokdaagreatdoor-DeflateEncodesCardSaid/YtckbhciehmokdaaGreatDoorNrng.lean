import Derived.Test.YtckbhciehmokdaaGreatDoorQtail
import Derived.Deep.OwnRows
import Derived.Deep.RegionWith
import Derived.Deep.RegionHeld3
import Derived.Deep.DeepCutAuto
import Derived.Deep.DeepFit
import Derived.BigQuiet
import Derived.Lib.MinMax
import Derived.RangeFuncNested
import Derived.RangeFuncBound
import Derived.RangeFuncCalls
import Derived.RangeFuncLeaves
import Derived.RangeFuncBox
import Derived.Shelf.Abstract
import Derived.Shelf.RegionOpen
import Derived.WalkKit
import Derived.OwnWalkIn
import Derived.TacticsInMore
import Derived.LoopNIn
import Derived.LoopIn
namespace Go.Proofs.YtckbhciehmokdaaGreatDoor
set_option maxRecDepth 100000
set_option maxHeartbeats 8000000
open Go.RowKit
abbrev rowObj (g m n : Nat) : Obj := .cells #[.slice (some ⟨g, 0, none⟩) m m, .int .i64 (n : Int)] 64 (0, 0)
abbrev bytesObj (bs : List Nat) : Obj := .cells (vb bs).toArray 5 (0, 0)
theorem cell_of_block {w : World} {b : Nat} {cs : Array Value} {t : TypeId} (h : w.heap[b]? = some (.cells cs t (0, 0))) (i : Nat) : w.cell? ⟨b, i, none⟩ = cs[i]? := by
 simp [World.cell?, h]
theorem free_of_block {w : World} {b : Nat} {cs : Array Value} {t : TypeId} (h : w.heap[b]? = some (.cells cs t (0, 0))) (i : Nat) : w.frozen? ⟨b, i, none⟩ = false := by
 simp [World.frozen?, h]
theorem lay_walk (R g m n x c : Nat) (w : World) (_hne : ¬ R = g) (_hne2 : ¬ g = R) (hn : n < 2251799813685248) (hm : n / 8 < m)
  (h0 : w.cell? ⟨R, 0, none⟩ = some (.slice (some ⟨g, 0, none⟩) m m)) (h1 : w.cell? ⟨R, 1, none⟩ = some (.int .i64 (n : Int))) (f1 : w.frozen? ⟨R, 1, none⟩ = false)
  (hg : w.cell? ⟨g, n / 8, none⟩ = some (.int .u8 (x : Int))) (fg : w.frozen? ⟨g, n / 8, none⟩ = false) :
  Calls Tryz.prog 132 #[.int .u8 (c : Int), .pointer (some ⟨R, 0, none⟩)] w fun e w' => e = .returned (.tuple #[]) /\
   w' = ((w.setCell ⟨g, n / 8, none⟩ (.int .u8 (bits BinOp.or IntKind.u8 (x : Int) ((c : Int) * 2 ^ (n % 8) % 256)))).setCell ⟨R, 1, none⟩ (.int .i64 ((n : Int) + 1))).drew := by
 go_enter Tryz.func132, Tryz.ntmps132
 go_wp2
 go_region
 go_wp2
 go_end0
 exact ⟨rfl, rfl⟩
theorem u8_lay (x n : Nat) (b : Bool) (hx : x < 256) : bits BinOp.or IntKind.u8 (x : Int) ((b.toNat : Int) * 2 ^ (n % 8) % 256) = ((x ||| (b.toNat <<< (n % 8)) : Nat) : Int) := by
 have h : b.toNat <<< (n % 8) < 256 := by
  have h1 : b.toNat <= 1 := by cases b <;> simp
  have h2 : 2 ^ (n % 8) <= 2 ^ 7 := Nat.pow_le_pow_right (by omega) (by omega)
  rw [Nat.shiftLeft_eq]
  have := Nat.mul_le_mul h1 h2
  omega
 have e : ((b.toNat : Int) * 2 ^ (n % 8) % 256) = ((b.toNat <<< (n % 8) : Nat) : Int) := by
  rw [Nat.shiftLeft_eq] at h ⊢
  have : ((b.toNat : Int) * 2 ^ (n % 8)) = ((b.toNat * 2 ^ (n % 8) : Nat) : Int) := by simp
  rw [this]
  omega
 rw [e]
 exact u8_or_nat _ _ hx h
theorem heap_setCell_self {w : World} {b i : Nat} {cs : Array Value} {t : TypeId} (h : w.heap[b]? = some (.cells cs t (0, 0))) (u : Value) :
  (w.setCell ⟨b, i, none⟩ u).heap[b]? = some (.cells (cs.setIfInBounds i u) t (0, 0)) := by
 simp [World.setCell, Array.getElem?_modify, h]
theorem lay_any (R g m : Nat) (l : List Bool) (b : Bool) (B : Nat) (w : World) (hRB : B <= R) (hgB : B <= g) (hm2 : m <= 281474976710656) (hm : l.length / 8 < m)
  (hR : w.heap[R]? = some (rowObj g m l.length)) (hg : w.heap[g]? = some (bytesObj (Bs.packTo m l))) :
  Calls Tryz.prog 132 #[.int .u8 (b.toNat : Int), .pointer (some ⟨R, 0, none⟩)] w fun e w' => e = .returned (.tuple #[]) /\
   w'.heap[R]? = some (rowObj g m (l ++ [b]).length) /\ w'.heap[g]? = some (bytesObj (Bs.packTo m (l ++ [b]))) /\ Below B w w' := by
 have hne : ¬ R = g := by
  intro e
  subst e
  rw [hR] at hg
  simp at hg
 have hx := Bs.byteAt_lt l (l.length / 8)
 refine (lay_walk R g m l.length (Bs.byteAt l (l.length / 8)) b.toNat w hne (fun e => hne e.symm) (by omega) hm
  (by rw [cell_of_block hR]; rfl) (by rw [cell_of_block hR]; rfl) (free_of_block hR 1) ?_ (free_of_block hg _)).mono ?_
 ·rw [cell_of_block hg]
  have := Bs.packTo_get' m l _ hm
  simp [vb, this]
 ·rintro e w' ⟨rfl, rfl⟩
  rw [u8_lay _ _ _ hx]
  refine ⟨rfl, ?_, ?_, ?_⟩
  ·have h1 : (w.setCell ⟨g, l.length / 8, none⟩ (.int .u8 ((Bs.byteAt l (l.length / 8) ||| b.toNat <<< (l.length % 8) : Nat) : Int))).heap[R]? = some (rowObj g m l.length) := by
    rw [Below.heap_setCell _ _ _ _ hne]; exact hR
   have h2 := heap_setCell_self (i := 1) h1 (.int .i64 ((l.length : Int) + 1))
   show (World.setCell _ _ _).heap[R]? = _
   rw [h2]
   simp
  ·show (World.setCell _ _ _).heap[g]? = _
   rw [Below.heap_setCell _ _ _ _ (fun e => hne e.symm), heap_setCell_self hg, Bs.packTo_snoc]
   simp [vb, List.map_set]
  ·exact Below.drew (((Below.refl _ _).setCell (by exact hgB) _).setCell (by exact hRB) _)
theorem made_zero (m : Nat) : madeCells #[Value.int .u8 0] m = (vb (Bs.packTo m [])).toArray := by
 apply Array.ext'
 rw [toList_madeCells_one]
 apply List.ext_getElem?
 intro i
 by_cases h : i < m
 ·simp [vb, Bs.packTo, h, Bs.byteAt, Bs.num]
 ·simp [vb, Bs.packTo, h]
theorem two_new (W : World) (o1 o2 : Obj) : ((W.alloc o1).alloc o2).drew.heap[W.heap.size]? = some o1 /\ ((W.alloc o1).alloc o2).drew.heap[W.heap.size + 1]? = some o2 := by
 constructor
 ·show ((W.heap.push o1).push o2)[_]? = _
  simp [Array.getElem?_push]
 ·show ((W.heap.push o1).push o2)[_]? = _
  rw [Array.getElem?_push, if_pos (by simp)]
theorem below_two (W : World) (o1 o2 : Obj) (B : Nat) (h : B <= W.heap.size) : Below B W ((W.alloc o1).alloc o2).drew :=
 Below.drew (((Below.refl _ _).alloc h _).alloc (by simp; omega) _)
def Laid (W wx : World) (s7 : Value) (m N : Nat) : Prop :=
 ∃ R g : Nat, s7 = .pointer (some ⟨R, 0, none⟩) /\ W.heap.size <= R /\ W.heap.size <= g /\ wx.heap[R]? = some (rowObj g m N) /\ wx.heap[g]? = some (bytesObj (Bs.packTo m [])) /\ Below W.heap.size W wx
theorem Laid.one (W : World) (m N : Nat) (b : Nat) (hb : b = W.heap.size) : Laid W ((W.alloc (.cells (madeCells #[.int .u8 0] m) 5)).alloc (.cells #[.slice (some ⟨b, 0, none⟩) m m, .int .i64 (N : Int)] 64)).drew (.pointer (some ⟨b + 1, 0, none⟩)) m N := by
 subst hb
 have h := two_new W (.cells (madeCells #[.int .u8 0] m) 5) (.cells #[.slice (some ⟨W.heap.size, 0, none⟩) m m, .int .i64 (N : Int)] 64)
 exact ⟨W.heap.size + 1, W.heap.size, rfl, by omega, by omega, h.2, by rw [h.1, made_zero], below_two _ _ _ _ (Nat.le_refl _)⟩
theorem Laid.two (W : World) (m N : Nat) (b : Nat) (hb : b = W.heap.size) : Laid W ((W.alloc (.cells #[.slice (some ⟨b + 1, 0, none⟩) m m, .int .i64 (N : Int)] 64)).alloc (.cells (madeCells #[.int .u8 0] m) 5)).drew (.pointer (some ⟨b, 0, none⟩)) m N := by
 subst hb
 have h := two_new W (.cells #[.slice (some ⟨W.heap.size + 1, 0, none⟩) m m, .int .i64 (N : Int)] 64) (.cells (madeCells #[.int .u8 0] m) 5)
 exact ⟨W.heap.size, W.heap.size + 1, rfl, by omega, by omega, h.1, by rw [h.2, made_zero], below_two _ _ _ _ (Nat.le_refl _)⟩
theorem splice_zero (m : Nat) (l : List Bool) (h : (l.length + 7) / 8 <= m) : splice (vb (Bs.packTo m [])) 0 (vb (Bs.pack l)) = vb (Bs.packTo m l) := by
 unfold splice
 apply List.ext_getElem?
 intro i
 simp only [List.take_zero, List.nil_append, Nat.zero_add, vb_length, Bs.pack_length]
 by_cases h1 : i < (l.length + 7) / 8
 ·rw [List.getElem?_append_left (by rw [vb_length, Bs.pack_length]; exact h1), vb_get, vb_get, Bs.packTo_get' m l i (by omega)]
  unfold Bs.pack
  rw [Bs.packTo_get' _ l i h1]
 ·rw [List.getElem?_append_right (by rw [vb_length, Bs.pack_length]; omega), List.getElem?_drop, vb_get, vb_get, vb_length, Bs.pack_length]
  have e : (l.length + 7) / 8 + (i - (l.length + 7) / 8) = i := by omega
  rw [e]
  by_cases h2 : i < m
  ·rw [Bs.packTo_get' m _ i h2, Bs.packTo_get' m _ i h2]
   have : Bs.byteAt l i = Bs.byteAt [] i := by
    unfold Bs.byteAt
    rw [List.drop_eq_nil_of_le (by omega)]
    simp
   rw [this]
  ·rw [List.getElem?_eq_none (by rw [Bs.packTo_length]; omega), List.getElem?_eq_none (by rw [Bs.packTo_length]; omega)]
theorem alloc2_block (w : World) (o1 o2 : Obj) : ((w.alloc o1).alloc o2).heap[w.heap.size]? = some o1 /\ ((w.alloc o1).alloc o2).heap[w.heap.size + 1]? = some o2 /\ ∀ i, i < w.heap.size -> ((w.alloc o1).alloc o2).heap[i]? = w.heap[i]? := by
 refine ⟨?_, ?_, fun i hi => ?_⟩
 ·show ((w.heap.push o1).push o2)[_]? = _
  simp [Array.getElem?_push]
 ·show ((w.heap.push o1).push o2)[_]? = _
  rw [Array.getElem?_push, if_pos (by simp)]
 ·show ((w.heap.push o1).push o2)[_]? = _
  rw [Array.getElem?_push, if_neg (by simp; omega), Array.getElem?_push, if_neg (by omega)]
theorem Laid.facts {w wx : World} {o1 o2 : Obj} {s7 : Value} {m N : Nat} (h : Laid ((w.alloc o1).alloc o2) wx s7 m N) :
  ∃ R g : Nat, s7 = .pointer (some ⟨R, 0, none⟩) /\ w.heap.size + 2 <= R /\ w.heap.size + 2 <= g /\ ¬ R = g /\ w.heap.size + 2 <= wx.heap.size /\ wx.heap[R]? = some (rowObj g m N) /\ wx.heap[g]? = some (bytesObj (Bs.packTo m [])) /\
   wx.heap[w.heap.size]? = some o1 /\ wx.heap[w.heap.size + 1]? = some o2 /\ Below w.heap.size w wx := by
 obtain ⟨R, g, rfl, h1, h2, hR, hg, hb⟩ := h
 have e : ((w.alloc o1).alloc o2).heap.size = w.heap.size + 2 := by simp
 have h3 := hb.size
 obtain ⟨a1, a2, a3⟩ := alloc2_block w o1 o2
 rw [e] at h1 h2 h3
 refine ⟨R, g, rfl, h1, h2, ?_, h3, hR, hg, ?_, ?_, ⟨hb.os, hb.tape, hb.output, by omega, fun i hi => ?_⟩⟩
 ·intro e
  subst e
  rw [hR] at hg
  simp at hg
 ·rw [hb.block _ (by omega), a1]
 ·rw [hb.block _ (by omega), a2]
 ·rw [hb.block _ (by omega), a3 _ hi]
def more (l : List Bool) (f : Nat -> Bool) (i : Nat) : List Bool := l ++ (List.range i).map f
theorem more_zero (l : List Bool) (f : Nat -> Bool) : more l f 0 = l := by simp [more]
theorem more_succ (l : List Bool) (f : Nat -> Bool) (i : Nat) : more l f (i + 1) = more l f i ++ [f i] := by simp [more, List.range_succ]
theorem more_length (l : List Bool) (f : Nat -> Bool) (i : Nat) : (more l f i).length = l.length + i := by simp [more]
def ExtPost (w : World) (l : List Bool) (f : Nat -> Bool) (k m : Nat) (e : Ending) (w' : World) : Prop :=
 ∃ g : Nat, e = .returned (.agg #[.slice (some ⟨g, 0, none⟩) m m, .int .i64 ((more l f k).length : Int)]) /\ w.heap.size <= g /\ w'.heap[g]? = some (bytesObj (Bs.packTo m (more l f k))) /\ Below w.heap.size w w'
theorem ext_any (F : FuncId) (hcall : ∀ (args : Array Value) (wx : World), (callFunc F args).run Tryz.prog wx = .ok (.enter F args) wx) (caps : Array Value) (l : List Bool) (f : Nat -> Bool) (a : Option Addr) (len cap N k m : Nat) (w : World)
  (hs : Sl w (.slice a len cap) (Bs.pack l)) (hl : Hid (N = l.length)) (hN : N <= 1125899906842624) (hk : k <= 1125899906842624) (hm : Hid ((N + k + 7) / 8 = m))
  (hnext : Hid (∀ (i : Nat) (wx : World), i < k -> Below w.heap.size w wx -> Calls Tryz.prog F (#[.int .i64 (i : Int)] ++ caps) wx fun e w' => e = .returned (.int .u8 ((f i).toNat : Int)) /\ Below wx.heap.size wx w')) :
  Calls Tryz.prog 91 #[.agg #[.slice a len cap, .int .i64 N], .int .i64 k, .func (.func F) #[] caps] w (ExtPost w l f k m) := by
 have hmk := run_make_row' (P := Tryz.prog) 22 5 (.int .u8 0) 1 Tryz.underlying22 Tryz.infoU8 rfl .i64 .i64 m (by have := hm.out; omega) (by have := hm.out; omega)
 have hsz : Hid ((((N : Int) + (k : Int)) / 8 + (((N : Int) + (k : Int)) % 8 + 7) / 8) = (m : Int)) := by
  show _ = _
  rw [<- hm.out]; omega
 have hA : 0 <= (N : Int) + (k : Int) := by omega
 have hB : (N : Int) + (k : Int) <= 9223372036854775807 := by omega
 have hs' := LH hs
 clear hs
 go_enter Tryz.func91, Tryz.ntmps91
 go_upto_region 1 with fail
 go_cut [7] (fun s7 wx => Laid ((w.alloc (.cells #[.slice a len cap, .int .i64 N] 64)).alloc (.cells #[.slice none 0 0, .int .i64 0] 64)) wx s7 m N)
 case first =>
  have hwr : IntKind.i64.wrap ((N : Int) + (k : Int)) = (N : Int) + (k : Int) := IntWalk.i64_in _ (by omega)
  clear hs' hnext hl hcall
  go_region_held3 (fun wx => wx.cell? ⟨w.heap.size, 1, none⟩ = some (.int .i64 (N : Int))) (go_keep) (first | (go_at_call 113; go_fit (size_is ((N : Int) + (k : Int)) (m : Int) hA hB hsz _); rintro e w' ⟨rfl, rfl⟩))
  all_goals (go_wp2_with fail; go_meet; first | exact Laid.one _ m N (w.heap.size + 1 + 1) (by simp) | exact Laid.two _ m N (w.heap.size + 1 + 1) (by simp))
 case rest =>
  clear hmk hsz hA hB
  obtain ⟨R, g, rfl, hRB, hgB, hne, hsz2, hR, hg, hbox, hres, hb1⟩ := hcut.facts
  clear hcut
  have c0 := cell_of_block hbox 0
  have c1 := cell_of_block hR 0
  simp only [List.getElem?_toArray, List.getElem?_cons_zero] at c0 c1
  have hs2 : Sl wc (.slice a len cap) (Bs.pack l) := hs'.out.later hb1
  have hlen : len = (N + 7) / 8 := by rw [hs2.len.1, Bs.pack_length, hl.out]
  have hmN : (N + 7) / 8 <= m := by have := hm.out; omega
  have hn : (vb (Bs.pack l)).length = Nat.min len m := by
   rw [vb_length, Bs.pack_length, <- hl.out]
   show _ = min len m
   omega
  have hpos : 0 < (vb (Bs.pack l)).length -> some (⟨g, 0, none⟩ : Addr) = some ⟨g, 0, none⟩ /\ ∃ ad, a = some ad /\ ∀ j v, (vb (Bs.pack l))[j]? = some v -> wc.cell? (ad.add j) = some v := fun h =>
   ⟨rfl, hs2.cells (by rw [vb_length, Bs.pack_length, <- hl.out] at h; omega)⟩
  have hfit : 0 + (vb (Bs.pack l)).length <= (vb (Bs.packTo m [])).length := by
   rw [vb_length, vb_length, Bs.pack_length, Bs.packTo_length, <- hl.out]; omega
  have H1 := LH hg
  have H2 := LH hR
  have H3 := LH hbox
  have H4 := LH hn
  have H5 := LH hpos
  have H6 := LH hfit
  have H7 := LH hlen
  have H8 := LH hs2
  have H9 := LH hres
  have H10 := LH hb1
  clear hg hR hbox hn hpos hfit hlen hs2 hres hb1
  go_wp2_with (with_reducible refine wpList_copy_only rfl (.tmp 20) (.tmp 22) 22 22 rfl 5 Tryz.underlying22 (by kernel_rfl) (some ⟨g, 0, none⟩) a m m len cap rfl rfl g 0 (vb (Bs.packTo m [])) 5 H1.out (vb (Bs.pack l)) H4.out H5.out H6.out (oneCell_vb _) ?_; intro w2 hg2 ho2)
  have HR2 : Hid (w2.heap[R]? = some (rowObj g m (more l f 0).length)) := by
   show _ = _
   rw [ho2.block R (lt_of_block H2.out) hne, more_zero, <- hl.out]; exact H2.out
  have HG2 : Hid (w2.heap[g]? = some (bytesObj (Bs.packTo m (more l f 0)))) := by
   show _ = _
   rw [more_zero]
   have e := splice_zero m l (by rw [<- hl.out]; exact hmN)
   have h := hg2.out
   rw [e] at h
   exact h
  have HB2 : Hid (Below w.heap.size w w2) := ho2.below H10.out (by omega) (by omega)
  have HE2 : Hid (w2.heap[w.heap.size + 1]? = some (.cells #[.slice none 0 0, .int .i64 0] 64 (0, 0))) := by
   show _ = _
   rw [ho2.block _ (by omega) (by omega)]; exact H9.out
  clear hg2 ho2 H1 H2 H3 H4 H5 H6 H7 H8 H9 H10 c0 c1
  go_loopw [26] (fun s26 wr => ∃ i : Nat, i <= k /\ s26 = .int .i64 i /\ Hid (wr.heap[R]? = some (rowObj g m (more l f i).length)) /\ Hid (wr.heap[g]? = some (bytesObj (Bs.packTo m (more l f i)))) /\ Hid (Below (w.heap.size + 2) w2 wr))
   (fun s _ => k - (intOf s).toNat)
  case atStart => exact ⟨0, Nat.zero_le _, rfl, HR2, HG2, Below.refl _ _⟩
  case round =>
   obtain ⟨i, hi, rfl, KR, KG, KB⟩ := hrel
   by_cases hlt : i < k
   ·have KN : Hid (Below w.heap.size w wr) := HB2.out.trans (KB.out.mono (by omega))
    have ksz := lt_of_block KG.out
    go_wp2_with fail
    have HC := hnext.out i wr hlt KN.out
    refine HC.mono ?_
    clear HC
    rintro e w3 ⟨rfl, hb3⟩
    have KR3 : Hid (w3.heap[R]? = some (rowObj g m (more l f i).length)) := (hb3.block R (lt_of_block KR.out)).trans KR.out
    have KG3 : Hid (w3.heap[g]? = some (bytesObj (Bs.packTo m (more l f i)))) := (hb3.block g (lt_of_block KG.out)).trans KG.out
    have KB3 : Hid (Below (w.heap.size + 2) w2 w3) := KB.out.trans (hb3.mono (by omega))
    clear hb3
    go_wp2_with fail
    refine (lay_any R g m (more l f i) (f i) (w.heap.size + 2) _ hRB hgB (by have := hm.out; omega) (by rw [more_length, <- hl.out]; have := hm.out; omega) KR3.out KG3.out).mono ?_
    rintro e w4 ⟨rfl, h1, h2, h3⟩
    have KR4 := LH h1
    have KG4 := LH h2
    have KB4 := LH (KB3.out.trans h3)
    clear h1 h2 h3
    go_wp2
    go_roundw
    case rel => exact ⟨i + 1, by omega, by go_num, by rw [more_succ]; exact KR4, by rw [more_succ]; exact KG4, KB4⟩
    case measure => simp [intOf]; omega
   ·obtain rfl : i = k := by omega
    have c0 : wr.cell? ⟨R, 0, none⟩ = some (.slice (some ⟨g, 0, none⟩) m m) := by rw [cell_of_block KR.out]; rfl
    have c1 : wr.cell? ⟨R, 1, none⟩ = some (.int .i64 ((more l f i).length : Int)) := by rw [cell_of_block KR.out]; rfl
    have KE : wr.heap[w.heap.size + 1]? = some (.cells #[.slice none 0 0, .int .i64 0] 64 (0, 0)) := (KB.out.block _ (by omega)).trans HE2.out
    have f0 := free_of_block KE 0
    have f1 := free_of_block KE 1
    have e0 : wr.cell? ⟨w.heap.size + 1, 0, none⟩ = some (.slice none 0 0) := by rw [cell_of_block KE]; rfl
    have e1 : wr.cell? ⟨w.heap.size + 1, 1, none⟩ = some (.int .i64 0) := by rw [cell_of_block KE]; rfl
    have KE' := LH KE
    clear KE
    go_wp2
    refine bodyPost_ret (v := .agg #[.slice (some ⟨g, 0, none⟩) m m, .int .i64 ((more l f i).length : Int)]) (by simp [results, Tryz.results91, go_sem, e0, e1]) rfl ⟨g, rfl, by omega, ?_, ?_⟩
    ·rw [Below.heap_setCell _ _ _ _ (by show g ≠ w.heap.size + 1; omega), Below.heap_setCell _ _ _ _ (by show g ≠ w.heap.size + 1; omega)]
     exact KG.out
    ·exact ((HB2.out.trans (KB.out.mono (by omega))).setCell (by show w.heap.size <= w.heap.size + 1; omega) _).setCell (by show w.heap.size <= w.heap.size + 1; omega) _
end Go.Proofs.YtckbhciehmokdaaGreatDoor
namespace Go.Proofs.YtckbhciehmokdaaGreatDoor
set_option maxRecDepth 100000
set_option maxHeartbeats 8000000
open Go.RowKit
theorem i64_and1 (n : Int) : bits .and .i64 n 1 = n % 2 := by
 have h1 : (BitVec.ofInt 64 1).toNat = 2 ^ 1 - 1 := by decide
 have key : (BitVec.ofInt 64 n &&& BitVec.ofInt 64 1).toNat = (n % ((2 ^ 64 : Nat) : Int)).toNat % 2 ^ 1 := by
  rw [BitVec.toNat_and, BitVec.toNat_ofInt, h1, Nat.and_two_pow_sub_one_eq_mod]
 show IntKind.i64.wrap ((BitVec.ofInt 64 n &&& BitVec.ofInt 64 1).toNat : Nat) = n % 2
 rw [key, IntKind.wrap_i64]
 omega
theorem bit_mod (v i : Nat) : v / 2 ^ i % 2 = (v.testBit i).toNat := by
 rw [Nat.testBit_eq_decide_div_mod_eq]
 rcases Nat.mod_two_eq_zero_or_one (v / 2 ^ i) with h | h <;> simp [h]
theorem bit_int (v i : Nat) : ((v : Int) / 2 ^ i) % 2 = ((v.testBit i).toNat : Int) := by
 rw [<- bit_mod]
 have e : ((v : Int) / 2 ^ i) = ((v / 2 ^ i : Nat) : Int) := by simp
 rw [e]
 omega
theorem ret_int {k : IntKind} {a b : Int} (h : a = b) : Ending.returned (.int k a) = .returned (.int k b) := by rw [h]
theorem putBit (V i v : Nat) (w : World) (hi : i < 64) (hc : w.cell? ⟨V, 0, none⟩ = some (.int .i64 (v : Int))) :
  Calls Tryz.prog 144 (#[.int .i64 (i : Int)] ++ #[.pointer (some ⟨V, 0, none⟩)]) w fun e w' => e = .returned (.int .u8 ((v.testBit i).toNat : Int)) /\ w = w' := by
 show Calls Tryz.prog 144 #[.int .i64 (i : Int), .pointer (some ⟨V, 0, none⟩)] w _
 have hb := bit_int v i
 have hlt := Bool.toNat_lt (v.testBit i)
 go_enter Tryz.func144, Tryz.ntmps144
 go_wp2
 go_ret
 exact ⟨ret_int (by rw [i64_and1]; omega), rfl⟩
theorem fits_any (v n : Int) (h : n <= 32) (w : World) :
  Calls Tryz.prog 143 #[.int .i64 v, .int .i64 n] w fun e w' => e = .returned (.bool (decide (0 <= n /\ 0 <= v /\ v / 2 ^ n.toNat = 0))) /\ w = w' := by
 by_cases h1 : 0 <= n
 ·by_cases h2 : 0 <= v
  ·by_cases h3 : v / 2 ^ n.toNat = 0
   ·have e : decide (0 <= n /\ 0 <= v /\ v / 2 ^ n.toNat = 0) = true := decide_eq_true ⟨h1, h2, h3⟩
    rw [e]
    exact fits_yes v n h1 h2 h h3 w
   ·have e : decide (0 <= n /\ 0 <= v /\ v / 2 ^ n.toNat = 0) = false := decide_eq_false fun h => h3 h.2.2
    have h4 : (v / 2 ^ n.toNat == 0) = false := by simpa using h3
    rw [e]
    clear e h3
    go_enter Tryz.func143, Tryz.ntmps143
    go_wp2
    go_ret
    exact ⟨rfl, rfl⟩
  ·have e : decide (0 <= n /\ 0 <= v /\ v / 2 ^ n.toNat = 0) = false := decide_eq_false fun h => h2 h.2.1
   have h4 : decide (0 <= v) = false := by simpa using h2
   rw [e]
   clear e
   go_enter Tryz.func143, Tryz.ntmps143
   go_wp2
   go_ret
   exact ⟨rfl, rfl⟩
 ·have e : decide (0 <= n /\ 0 <= v /\ v / 2 ^ n.toNat = 0) = false := decide_eq_false fun h => h1 h.1
  have h4 : decide (0 <= n) = false := by simpa using h1
  rw [e]
  clear e
  go_enter Tryz.func143, Tryz.ntmps143
  go_wp2
  go_ret
  exact ⟨rfl, rfl⟩
theorem fits_is (v n : Int) (z : Bool) (h : n <= 32) (hz : Hid (decide (0 <= n /\ 0 <= v /\ v / 2 ^ n.toNat = 0) = z)) (w : World) :
  Calls Tryz.prog 143 #[.int .i64 v, .int .i64 n] w fun e w' => e = .returned (.bool z) /\ w = w' := hz.out ▸ fits_any v n h w
def RowPost (w : World) (l : List Bool) (e : Ending) (w' : World) : Prop :=
 ∃ g m : Nat, e = .returned (.tuple #[.agg #[.slice (some ⟨g, 0, none⟩) m m, .int .i64 (l.length : Int)], .int .i64 0]) /\ m = (l.length + 7) / 8 /\ w.heap.size <= g /\ Has w' g (bytesObj (Bs.pack l)) /\ Below w.heap.size w w'
theorem set2_below {B : Nat} {w w1 : World} (kb : Below B w w1) (b : Nat) (hb : B <= b) (x y : Value) : Below B w ((w1.setCell ⟨b, 0, none⟩ x).setCell ⟨b, 1, none⟩ y) :=
 (kb.setCell (by exact hb) _).setCell (by exact hb) _
theorem put_ok (s : Value) (l : List Bool) (v n : Nat) (w : World) (hs : Sl w s (Bs.pack l)) (hN : Hid (l.length <= 1125899906842624)) (hn : n <= 32) (hv : Hid (v < 2 ^ n)) (N : Nat) (hl : Hid (N = l.length)) :
  Calls Tryz.prog 100 #[.agg #[s, .int .i64 (N : Int)], .int .i64 (v : Int), .int .i64 (n : Int)] w (RowPost w (l ++ Bs.bitsOf v n)) := by
 have HS := LH hs
 have HF : Hid (decide (0 <= (n : Int) /\ 0 <= (v : Int) /\ (v : Int) / 2 ^ (n : Int).toNat = 0) = true) := by
  refine decide_eq_true ⟨by omega, by omega, ?_⟩
  have e : ((v : Int) / 2 ^ (n : Int).toNat) = ((v / 2 ^ n : Nat) : Int) := by simp
  rw [e, Nat.div_eq_of_lt hv.out]
  rfl
 clear hs
 obtain ⟨a, len, cap, rfl, hl'⟩ := HS.out.shape
 clear hl'
 have hN2 : N <= 1125899906842624 := by have := hl.out; have := hN.out; omega
 go_enter Tryz.func100, Tryz.ntmps100
 go_wp2_with fail
 refine (check_ok _ (Bs.pack l) N _ (HS.out.later (below3 _ _ _ _)) (by omega) (by rw [hl.out]; exact Bs.pack_right l)).mono ?_
 rintro e w1 ⟨rfl, hb1⟩
 obtain ⟨k1, k2, k3, kb, ks⟩ := facts3 hb1
 clear hb1
 obtain ⟨c0, c1, f0, f1⟩ := k1.two
 obtain ⟨b0, g0⟩ := k2.one
 have hi32 : (n : Int) <= 32 := by omega
 go_wp2_with (go_at_call 143; refine (fits_is (v : Int) (n : Int) true hi32 HF _).mono ?_; rintro e w2 ⟨rfl, rfl⟩)
 have HX : Hid (∀ (i : Nat) (wx : World), i < n -> Below w1.heap.size w1 wx -> Calls Tryz.prog 144 (#[.int .i64 (i : Int)] ++ #[.pointer (some ⟨w.heap.size + 1, 0, none⟩)]) wx fun e w' => e = .returned (.int .u8 ((v.testBit i).toNat : Int)) /\ Below wx.heap.size wx w') := by
  intro i wx hi hb
  refine (putBit (w.heap.size + 1) i v wx (by omega) (k2.later hb).one.1).mono ?_
  rintro e w' ⟨rfl, rfl⟩
  exact ⟨rfl, Below.refl _ _⟩
 refine (ext_any 144 Tryz.call144 _ l v.testBit a len cap N n ((N + n + 7) / 8) w1 (HS.out.later kb) hl hN2 (by omega) rfl HX).mono ?_
 clear HX HF c0 c1 f0 f1 b0 g0
 rintro e w3 ⟨g, rfl, hg, hh, hb3⟩
 have HH := LH hh
 have k4 := k3.later hb3
 have kb4 := kb.trans (hb3.mono (by omega))
 clear hh k1 k2 k3 kb hb3
 obtain ⟨c0, c1, f0, f1⟩ := k4.two
 go_wp2
 refine bodyPost_ret (v := .tuple #[.agg #[.slice (some ⟨g, 0, none⟩) ((N + n + 7) / 8) ((N + n + 7) / 8), .int .i64 ((more l v.testBit n).length : Int)], .int .i64 0]) (by simp [results, Tryz.results100, go_sem, c0, c1]) rfl ⟨g, (N + n + 7) / 8, rfl, ?_, by omega, ?_, set2_below kb4 _ (by omega) _ _⟩
 ·simp [Bs.bitsOf_length, hl.out]
 ·refine Has.set (Has.set ?_ (by show g ≠ w.heap.size + 1 + 1; omega) _) (by show g ≠ w.heap.size + 1 + 1; omega) _
  have e : Bs.pack (l ++ Bs.bitsOf v n) = Bs.packTo ((N + n + 7) / 8) (more l v.testBit n) := by
   unfold Bs.pack
   rw [List.length_append, Bs.bitsOf_length, <- hl.out]
   rfl
  rw [e]
  exact HH.out
end Go.Proofs.YtckbhciehmokdaaGreatDoor
namespace Go.Proofs.YtckbhciehmokdaaGreatDoor
set_option maxRecDepth 100000
set_option maxHeartbeats 8000000
open Go.RowKit
structure Wd (B : Nat) (W : World) where
 w : World
 h : Below B W w
instance (B : Nat) (W : World) : Nonempty (Wd B W) := ⟨⟨W, Below.refl _ _⟩⟩
theorem region_made {P : Program} {id : Nat} {Q : Exit -> Act -> World -> Prop} {a : Act} {w : World} {l : List Oper} (B : Nat) (W : World) (hm : P.follows .mixedOrders = true) (hB : Region.lexB .any l.toArray = true)
  (hC : Below B W w) (h : wpQuiet P l.toArray (fun w' => ∃ x : Wd B W, w' = x.w) (fun a' => ∀ x : Wd B W, Q .normal a' x.w) l a) : (Code.region id l.toArray true).wp P Q a w := by
 refine wp_region_quiet (C := fun w' => ∃ x : Wd B W, w' = x.w) hm hB ⟨⟨_, hC.drew⟩, rfl⟩ ?_
 have : (fun a' => ∀ w', (∃ x : Wd B W, w' = x.w) -> Q .normal a' w') = fun a' => ∀ x : Wd B W, Q .normal a' x.w := by
  funext a'
  exact propext ⟨fun h x => h _ ⟨x, rfl⟩, fun h w' ⟨x, e⟩ => e ▸ h x⟩
 rw [this]
 simpa using h
theorem made_call {P : Program} {f : FuncId} {args : Array Value} {B : Nat} {W : World} {v : Value} (x : Wd B W) (hB : B <= W.heap.size)
  (h : Calls P f args x.w fun e w' => e = .returned v /\ Below x.w.heap.size x.w w') : Calls P f args x.w fun e w'' => e = .returned v /\ ∃ y : Wd B W, w'' = y.w :=
 h.mono fun _ w' ⟨he, hb⟩ => ⟨he, ⟨w', x.h.trans (hb.mono (by have := x.h.size; omega))⟩, rfl⟩
theorem Wd.cell {B : Nat} {W : World} (x : Wd B W) {b o : Nat} (hb : b < B) : x.w.cell? ⟨b, o, none⟩ = W.cell? ⟨b, o, none⟩ := x.h.cell (p := ⟨b, o, none⟩) hb
end Go.Proofs.YtckbhciehmokdaaGreatDoor
namespace Go.Proofs.YtckbhciehmokdaaGreatDoor
set_option maxRecDepth 100000
set_option maxHeartbeats 8000000
open Go.RowKit
def scl (sym least per groups : Int) : Value := .agg #[.int .i64 sym, .int .i64 least, .int .i64 per, .int .i64 groups]
theorem Has.four {w : World} {b : Nat} {x y z u : Value} {t : TypeId} (h : Has w b (.cells #[x, y, z, u] t (0, 0))) :
  w.cell? ⟨b, 0, none⟩ = some x /\ w.cell? ⟨b, 1, none⟩ = some y /\ w.cell? ⟨b, 2, none⟩ = some z /\ w.cell? ⟨b, 3, none⟩ = some u :=
 ⟨by rw [h.cell]; rfl, by rw [h.cell]; rfl, by rw [h.cell]; rfl, by rw [h.cell]; rfl⟩
def Gives (v : Value) (w : World) (e : Ending) (w' : World) : Prop := e = .returned v /\ Below w.heap.size w w'
theorem lengths_is (w : World) : Calls Tryz.prog 104 #[] w (Gives (scl 257 3 4 7) w) := by
 go_enter Tryz.func104, Tryz.ntmps104
 go_wp2
 refine bodyPost_ret (v := scl 257 3 4 7) (by simp [results, Tryz.results104, go_sem, scl]) rfl ⟨rfl, below1 w _⟩
theorem distances_is (w : World) : Calls Tryz.prog 107 #[] w (Gives (scl 0 1 2 15) w) := by
 go_enter Tryz.func107, Tryz.ntmps107
 go_wp2
 refine bodyPost_ret (v := scl 0 1 2 15) (by simp [results, Tryz.results107, go_sem, scl]) rfl ⟨rfl, below1 w _⟩
theorem beside_is (g : Nat) (w : World) (hg : g <= 1000) : Calls Tryz.prog 148 #[.int .i64 (g : Int)] w fun e w' => e = .returned (.int .i64 ((g - 1 : Nat) : Int)) /\ w = w' := by
 have h : max ((g : Int) - 1) 0 = ((g - 1 : Nat) : Int) := by omega
 go_enter Tryz.func148, Tryz.ntmps148
 go_wp2
 go_ret
 exact ⟨by rw [<- h]; rfl, rfl⟩
theorem lend_is (w : World) : Calls Tryz.prog 147 #[scl 257 3 4 7] w (Gives (.int .i64 285) w) := by
 unfold scl
 go_enter Tryz.func147, Tryz.ntmps147
 go_wp2
 go_ret
 exact ⟨rfl, below1 w _⟩
theorem dend_is (w : World) : Calls Tryz.prog 147 #[scl 0 1 2 15] w (Gives (.int .i64 30) w) := by
 unfold scl
 go_enter Tryz.func147, Tryz.ntmps147
 go_wp2
 go_ret
 exact ⟨rfl, below1 w _⟩
end Go.Proofs.YtckbhciehmokdaaGreatDoor
namespace Go.Proofs.YtckbhciehmokdaaGreatDoor
set_option maxRecDepth 100000
set_option maxHeartbeats 8000000
open Go.RowKit
def Rz (w : World) (g n : Nat) (d : Nat -> Nat) : Prop := ∃ cs : Array Value, Has w g (.cells cs 3 (0, 0)) /\ cs.size = n /\ ∀ i, i < n -> cs[i]? = some (.int .i64 (d i : Int))
theorem Rz.cell {w : World} {g n : Nat} {d : Nat -> Nat} (h : Rz w g n d) (i : Nat) (hi : i < n) : w.cell? ⟨g, i, none⟩ = some (.int .i64 (d i : Int)) := by
 obtain ⟨cs, h1, _, h3⟩ := h
 rw [h1.cell]; exact h3 i hi
theorem Rz.free {w : World} {g n : Nat} {d : Nat -> Nat} (h : Rz w g n d) (i : Nat) : w.frozen? ⟨g, i, none⟩ = false := by
 obtain ⟨cs, h1, _, _⟩ := h
 exact h1.free i
theorem Rz.lt {w : World} {g n : Nat} {d : Nat -> Nat} (h : Rz w g n d) : g < w.heap.size := by obtain ⟨cs, h1, _, _⟩ := h; exact h1.lt
theorem Rz.later {w w' : World} {g n : Nat} {d : Nat -> Nat} (h : Rz w g n d) (hb : Below w.heap.size w w') : Rz w' g n d := by
 obtain ⟨cs, h1, h2, h3⟩ := h
 exact ⟨cs, h1.later hb, h2, h3⟩
theorem Rz.congr {w : World} {g n : Nat} {d e : Nat -> Nat} (h : Rz w g n d) (he : ∀ i, i < n -> e i = d i) : Rz w g n e := by
 obtain ⟨cs, h1, h2, h3⟩ := h
 exact ⟨cs, h1, h2, fun i hi => by rw [he i hi]; exact h3 i hi⟩
theorem Rz.set {w : World} {g n : Nat} {d : Nat -> Nat} (h : Rz w g n d) (p v : Nat) (hp : p < n) : Rz (w.setCell ⟨g, p, none⟩ (.int .i64 (v : Int))) g n (fun i => if i = p then v else d i) := by
 obtain ⟨cs, h1, h2, h3⟩ := h
 refine ⟨_, h1.setSelf _, by simp [h2], fun i hi => ?_⟩
 show _ = some (Value.int .i64 ((if i = p then v else d i : Nat) : Int))
 by_cases e : i = p
 ·subst e
  rw [if_pos rfl]
  simp [h2, hp]
 ·rw [if_neg e]
  rw [Array.getElem?_setIfInBounds_ne (by omega)]
  exact h3 i hi
theorem madeRz (w : World) (n : Nat) : Rz (w.alloc (.cells (madeCells #[Value.int .i64 0] n) 3)) w.heap.size n (fun _ => 0) := by
 refine ⟨_, Has.new w _, ?_, fun i hi => ?_⟩
 ·simp [madeCells]
 ·simp [madeCells, hi, Nat.mod_one]
end Go.Proofs.YtckbhciehmokdaaGreatDoor
namespace Go.Proofs.YtckbhciehmokdaaGreatDoor
set_option maxRecDepth 100000
set_option maxHeartbeats 8000000
open Go.RowKit Go.Shelf
structure Lo (b m : Nat) (A B : World) : Prop where
 os : B.os = A.os
 tape : B.tape = A.tape
 output : B.output = A.output
 size : A.heap.size <= B.heap.size
 block : ∀ k, k < A.heap.size -> (k < b ∨ b + m <= k) -> B.heap[k]? = A.heap[k]?
theorem Lo.refl (b m : Nat) (A : World) : Lo b m A A := ⟨rfl, rfl, rfl, Nat.le_refl _, fun _ _ _ => rfl⟩
theorem Lo.trans {b m : Nat} {A B C : World} (h : Lo b m A B) (k : Lo b m B C) : Lo b m A C :=
 ⟨k.os.trans h.os, k.tape.trans h.tape, k.output.trans h.output, Nat.le_trans h.size k.size, fun i hi hb => (k.block i (Nat.lt_of_lt_of_le hi h.size) hb).trans (h.block i hi hb)⟩
theorem Lo.wide {b m c n : Nat} {A B : World} (h : Lo b m A B) (h1 : c <= b) (h2 : b + m <= c + n) : Lo c n A B :=
 ⟨h.os, h.tape, h.output, h.size, fun k hk hb => h.block k hk (by omega)⟩
theorem Lo.of_below {b m : Nat} {A B : World} (h : Below A.heap.size A B) : Lo b m A B := ⟨h.os, h.tape, h.output, h.size, fun k hk _ => h.block k hk⟩
theorem Lo.below {b m B0 : Nat} {W A B : World} (h : Lo b m A B) (hb : Below B0 W A) (hB : B0 <= b) (hs : B0 <= A.heap.size) : Below B0 W B :=
 hb.trans ⟨h.os, h.tape, h.output, h.size, fun k hk => h.block k (Nat.lt_of_lt_of_le hk hs) (Or.inl (Nat.lt_of_lt_of_le hk hB))⟩
theorem Lo.has {b m : Nat} {A B : World} (h : Lo b m A B) {k : Nat} {o : Obj} (hk : Has A k o) (hb : k < b ∨ b + m <= k) : Has B k o := (h.block k hk.lt hb).trans hk
theorem Lo.putObj (A : World) (k : Nat) (o : Obj) : Lo k 1 A (A.putObj k o) :=
 ⟨rfl, rfl, rfl, by simp, fun i _ hb => World.putObj_heap_other (by omega)⟩
structure Up (B : Nat) (A C : World) : Prop where
 os : C.os = A.os
 tape : C.tape = A.tape
 output : C.output = A.output
 size : A.heap.size <= C.heap.size
 block : ∀ k, B <= k -> k < A.heap.size -> C.heap[k]? = A.heap[k]?
theorem Up.refl (B : Nat) (A : World) : Up B A A := ⟨rfl, rfl, rfl, Nat.le_refl _, fun _ _ _ => rfl⟩
theorem Up.trans {b : Nat} {A B C : World} (h : Up b A B) (k : Up b B C) : Up b A C :=
 ⟨k.os.trans h.os, k.tape.trans h.tape, k.output.trans h.output, Nat.le_trans h.size k.size, fun i hb hi => (k.block i hb (Nat.lt_of_lt_of_le hi h.size)).trans (h.block i hb hi)⟩
theorem Up.of_below {b : Nat} {A B : World} (h : Below A.heap.size A B) : Up b A B := ⟨h.os, h.tape, h.output, h.size, fun k _ hk => h.block k hk⟩
theorem Up.mono {b c : Nat} {A B : World} (h : Up b A B) (hb : b <= c) : Up c A B := ⟨h.os, h.tape, h.output, h.size, fun k h1 h2 => h.block k (Nat.le_trans hb h1) h2⟩
theorem Up.has {b : Nat} {A B : World} (h : Up b A B) {k : Nat} {o : Obj} (hk : Has A k o) (hb : b <= k) : Has B k o := (h.block k hb hk.lt).trans hk
theorem Up.putObj {b : Nat} (A : World) (k : Nat) (o : Obj) (hk : k < b) : Up b A (A.putObj k o) := ⟨rfl, rfl, rfl, by simp, fun i hi _ => World.putObj_heap_other (by omega)⟩
theorem roundIn_wide {n m : Nat} {P : Program} {l : Nat} {f : FuncId} {tmps : Array Value} {assign body : Code} {w : World} {R : Ending -> World -> Prop} (h : RoundIn Fence.wide n P l f tmps assign body w R) : RoundIn Fence.wide m P l f tmps assign body w R :=
 ⟨h.1, fun c cs _ => h.2 c cs (room_wide _)⟩
def Goes (P : Program) (B l : Nat) (args : Array Value) (J J' : World -> Prop) : Prop :=
 ∀ W1, J W1 -> B <= W1.heap.size -> YieldAt Fence.wide 9 P l args W1 fun e W' => e = .returned (.bool true) /\ Up B W1 W' /\ J' W'
def Grows (B : Nat) (J : World -> Prop) : Prop := ∀ A C, J A -> B <= A.heap.size -> Below A.heap.size A C -> J C
def FixPost (b : Nat) (J : World -> Prop) (W : World) (e : Exit) (_ : Act) (W' : World) : Prop := e = .normal /\ Up b W W' /\ J W'
section
variable {n : Nat} {P : Program}
end
end Go.Proofs.YtckbhciehmokdaaGreatDoor
