import Derived.Test.YtckbhciehmokdaaGreatDoorQtail
import Derived.Test.YtckbhciehmokdaaGreatDoorItake
import Derived.Test.YtckbhciehmokdaaGreatDoorNrng
import Derived.Test.YtckbhciehmokdaaGreatDoorCarg
import Derived.Deep.RegionLawGrows
import Derived.Deep.RegionHeld3
import Derived.Lib.MinMax
namespace Go.Proofs.YtckbhciehmokdaaGreatDoor
set_option maxRecDepth 100000
set_option maxHeartbeats 8000000
open Go.RowKit
theorem below_grown {B g0 : Nat} {W w w' : World} (hb : Below B W w) (hg : w.grownBy w' (some g0)) (hB : B <= g0) (hs : B <= w.heap.size) : Below B W w' :=
 hb.grown hg hs (by intro k hk; injection hk; omega)
theorem Sl.facts {w : World} {s : Value} {bs : List Nat} (h : Sl w s bs) : (∀ x ∈ bs, x < 256) /\ bs.length <= 281474976710656 := by
 obtain ⟨a, len, cap, _, h1, h2, _, h8, _⟩ := h
 exact ⟨h8, h1 ▸ h2⟩
theorem Sl.grown {g0 : Nat} {w w0 w' : World} {s : Value} {bs : List Nat} (h : Sl w0 s bs) (h0 : Below w0.heap.size w0 w) (hg : w.grownBy w' (some g0)) (hB : w0.heap.size <= g0) : Sl w' s bs :=
 h.later (below_grown h0 hg hB h0.size)
theorem Sl.take {w : World} {a : Option Addr} {len cap : Nat} {bs : List Nat} (h : Sl w (.slice a len cap) bs) (k : Nat) (hk : k <= len) : Sl w (.slice a k cap) (bs.take k) := by
 obtain ⟨a', len', cap', he, h1, h2, h3, h4, h5⟩ := h
 injection he with e1 e2 e3
 subst e1 e2 e3
 refine ⟨_, k, cap, rfl, by rw [List.length_take]; omega, by omega, fun h => ⟨by have := (h3 h).1; omega, (h3 h).2⟩, fun x hx => h4 x (List.mem_of_mem_take hx), fun h0 => ?_⟩
 obtain ⟨b, off, rfl, hlt, hc⟩ := h5 (by omega)
 refine ⟨b, off, rfl, hlt, fun i hi => ?_⟩
 rw [hc i (by omega), List.getElem?_take_of_lt hi]
theorem Sl.drew {w : World} {s : Value} {bs : List Nat} (h : Sl w s bs) : Sl w.drew s bs := h
theorem Sl.at {w : World} {a : Option Addr} {len cap : Nat} {bs : List Nat} (h : Sl w (.slice a len cap) bs) (k : Nat) (hk : k < len) :
  ∃ b off, a = some ⟨b, off, none⟩ /\ b < w.heap.size /\ w.cell? ⟨b, off + k, none⟩ = some (.int .u8 ((bs[k]?.getD 0 : Nat) : Int)) /\ bs[k]?.getD 0 < 256 /\ k < bs.length := by
 obtain ⟨a', len', cap', he, h1, h2, h3, h4, h5⟩ := h
 injection he with e1 e2 e3
 subst e1 e2 e3
 obtain ⟨b, off, rfl, hlt, hc⟩ := h5 (by omega)
 refine ⟨b, off, rfl, hlt, hc k hk, ?_, by omega⟩
 rw [List.getElem?_eq_getElem (by omega)]
 exact h4 _ (List.getElem_mem _)
end Go.Proofs.YtckbhciehmokdaaGreatDoor
namespace Go.Proofs.YtckbhciehmokdaaGreatDoor
set_option maxRecDepth 100000
set_option maxHeartbeats 8000000
open Go.RowKit
def tkv (t : If.Tk) : Value := .agg #[.int .i64 (t.len : Int), .int .i64 (t.far : Int), .int .u8 (t.lit : Int)]
theorem isByte_any (n d x : Nat) (w : World) : Calls Tryz.prog 97 #[.agg #[.int .i64 (n : Int), .int .i64 (d : Int), .int .u8 (x : Int)]] w fun e w' => e = .returned (.bool (decide (n = 0 /\ d = 0))) /\ Below w.heap.size w w' := by
 by_cases h1 : n = 0
 ·subst h1
  by_cases h2 : d = 0
  ·subst h2
   go_enter Tryz.func97, Tryz.ntmps97
   go_wp2
   go_ret
   exact ⟨rfl, below1 _ _⟩
  ·have e : decide ((0 : Nat) = 0 /\ d = 0) = false := by simp [h2]
   rw [e]
   have d1 : ((d : Int) == 0) = false := by simp; omega
   clear h2 e
   go_enter Tryz.func97, Tryz.ntmps97
   go_wp2
   go_ret
   exact ⟨rfl, below1 _ _⟩
 ·have e : decide (n = 0 /\ d = 0) = false := by simp [h1]
  rw [e]
  have d1 : ((n : Int) == 0) = false := by simp; omega
  clear h1 e
  go_enter Tryz.func97, Tryz.ntmps97
  go_wp2
  go_ret
  exact ⟨rfl, below1 _ _⟩
theorem isCopy_ok (n d : Nat) (w : World) (h1 : 3 <= n) (h2 : n <= 258) (h3 : 1 <= d) (h4 : d <= 32768) : Calls Tryz.prog 142 #[.agg #[.int .i64 (n : Int), .int .i64 (d : Int), .int .u8 0]] w fun e w' => e = .returned (.bool true) /\ Below w.heap.size w w' := by
 have d1 : decide ((d : Int) <= 32768) = true := by simp; omega
 go_enter Tryz.func142, Tryz.ntmps142
 go_wp2
 go_ret
 exact ⟨by rw [<- d1]; rfl, below1 _ _⟩
theorem tk_cells {w : World} {T : Nat} {a b c : Value} {t : TypeId} (h : Has w T (.cells #[a, b, c] t (0, 0))) : w.cell? ⟨T, 0, none⟩ = some a /\ w.cell? ⟨T, 1, none⟩ = some b /\ w.cell? ⟨T, 2, none⟩ = some c :=
 ⟨by rw [h.cell]; rfl, by rw [h.cell]; rfl, by rw [h.cell]; rfl⟩
def Tv (t : If.Tk) : Prop := If.Byt t ∨ If.Cop t
theorem mcheck_ok (t : If.Tk) (w : World) (ht : Tv t) : Calls Tryz.prog 96 #[tkv t] w fun e w' => e = .returned (.int .i64 0) /\ Below w.heap.size w w' := by
 obtain ⟨n, d, x⟩ := t
 unfold tkv
 rcases ht with ⟨h1, h2, _⟩ | ⟨h0, h1, h2, h3, h4⟩
 ·simp only at h1 h2
  subst h1 h2
  go_enter Tryz.func96, Tryz.ntmps96
  go_wp2_with (refine (isByte_any 0 0 x _).mono ?_; rintro e w1 ⟨rfl, hb1⟩)
  go_ret
  exact ⟨rfl, (below1 _ _).trans (hb1.mono (by simp))⟩
 ·simp only at h0 h1 h2 h3 h4
  subst h0
  have hb : decide (n = 0 /\ d = 0) = false := by simp; omega
  have HI := LH (fun W => isByte_any n d 0 W)
  rw [hb] at HI
  have HC := LH (fun W => isCopy_ok n d W h1 h2 h3 h4)
  clear hb h1 h2 h3 h4
  go_enter Tryz.func96, Tryz.ntmps96
  go_wp2_with fail
  refine (HI.out _).mono ?_
  rintro e w1 ⟨rfl, hb1⟩
  obtain ⟨hT, hb, _⟩ := facts1 hb1
  obtain ⟨c0, c1, c2⟩ := tk_cells hT
  have HB := LH hb
  clear hb1 hT hb
  go_wp2_with fail
  refine (HC.out _).mono ?_
  rintro e w2 ⟨rfl, hb2⟩
  go_wp2
  go_ret
  exact ⟨rfl, HB.out.trans (hb2.mono HB.out.size)⟩
theorem size_val (t : If.Tk) (ht : Tv t) : max (t.len : Int) 1 = (If.sz t : Int) := by
 unfold If.sz
 rcases ht with ⟨h1, _⟩ | ⟨_, h1, _⟩
 ·rw [if_pos h1, h1]; rfl
 ·rw [if_neg (by omega)]; omega
theorem msize_ok (t : If.Tk) (w : World) (ht : Tv t) : Calls Tryz.prog 86 #[tkv t] w fun e w' => e = .returned (.int .i64 (If.sz t : Int)) /\ Below w.heap.size w w' := by
 have h := size_val t ht
 obtain ⟨n, d, x⟩ := t
 unfold tkv
 generalize If.sz ⟨n, d, x⟩ = z at h ⊢
 have HH := LH h
 clear h ht
 go_enter Tryz.func86, Tryz.ntmps86
 go_wp2
 go_ret
 exact ⟨by rw [<- HH.out]; rfl, below1 _ _⟩
theorem fits_ok (t : If.Tk) (n most : Nat) (w : World) (ht : Tv t) (h1 : t.far <= n) (h2 : n + If.sz t <= most) (h3 : most <= 65536) :
  Calls Tryz.prog 55 #[tkv t, .int .i64 (n : Int), .int .i64 (most : Int)] w fun e w' => e = .returned (.int .i64 0) /\ Below w.heap.size w w' := by
 obtain ⟨z, hz⟩ : ∃ z, z = If.sz t := ⟨_, rfl⟩
 have HC := LH (fun W => mcheck_ok t W ht)
 have HS := LH (fun W => msize_ok t W ht)
 rw [<- hz] at HS h2
 obtain ⟨len, d, x⟩ := t
 unfold tkv at *
 simp only at h1 HC HS ⊢
 have d1 : decide ((d : Int) > (n : Int)) = false := by simp; omega
 have d2 : decide ((n : Int) < (d : Int)) = false := by simp; omega
 have d3 : decide (n < d) = false := by simp; omega
 have e1 : decide ((most : Int) < ((n + z : Nat) : Int)) = false := by simp; omega
 have e2 : decide (most < n + z) = false := by simp; omega
 clear ht hz
 go_enter Tryz.func55, Tryz.ntmps55
 go_wp2_with fail
 refine (HC.out _).mono ?_
 rintro e w1 ⟨rfl, hb1⟩
 obtain ⟨hT, hb, _⟩ := facts1 hb1
 obtain ⟨c0, c1, c2⟩ := tk_cells hT
 have HB := LH hb
 clear hb1 hT hb
 go_wp2_with fail
 refine (HS.out _).mono ?_
 rintro e w2 ⟨rfl, hb2⟩
 have HB2 := LH (HB.out.trans (hb2.mono HB.out.size))
 clear hb2
 go_wp2
 go_ret
 exact ⟨rfl, HB2.out⟩
theorem own_ne_ty {w : World} {base n b : Nat} {v : Value} {e : TypeId} {size : Nat} {xs : List Value} {cs : Array Value} {fr : Nat × Nat} {t : TypeId} (h : w.ownsRow base e size v n xs) (hb : Has w b (.cells cs t fr)) (ht : t ≠ e) : v.ownBlock ≠ some b := by
 rcases h.2 with ⟨rfl, _⟩ | ⟨g, cap, cur, rfl, _, hg, _⟩
 ·simp [Value.ownBlock]
 ·intro e'
  simp only [Value.ownBlock, Option.some.injEq] at e'
  subst e'
  have hb' : w.heap[g]? = some (.cells cs t fr) := hb
  rw [hg] at hb'
  simp only [Option.some.injEq, Obj.cells.injEq] at hb'
  exact ht hb'.2.1.symm
theorem wpList_append_byte {ops : Array Oper} {rest : List Oper} {o : Oper} {a : Act} {w : World} {Q : Exit -> Act -> World -> Prop} (hgd : o.guard = none) (s x : Operand)
  (ho : o.op = .call { callee := .builtin .append, args := #[s, x], argTypes := #[22, 22] })
  (base : Nat) (v : Value) (n : Nat) (bs : List Nat) (hs : a.eval s = v) (hown : w.ownsRow base 5 1 v n (vb bs))
  (g y : Nat) (hx : a.eval x = .slice (some ⟨g, 0, none⟩) 1 1) (hc : w.cell? ⟨g, 0, none⟩ = some (.int .u8 (y : Int))) (b1 : n + 1 <= 140737488355328) (hbase : base <= w.heap.size)
  (h : ∀ v' w', Hid (w'.ownsRow base 5 1 v' (n + 1) (vb (bs ++ [y]))) -> Hid (w.grownBy w' v.ownBlock) -> wpList Tryz.prog ops Q rest (a.put o.dst v') w') :
  wpList Tryz.prog ops Q (o :: rest) a w := by
 obtain ⟨i0, hi, hz0, hz1, hz2⟩ := info_parts Tryz.infoU8
 refine wpList_append_own w hgd s x 22 ho base 5 i0 (.int .u8 0) 1 1 Tryz.underlying22 hi hz0 hz1 hz2 rfl (by decide) v n (vb bs) hs hown ⟨g, 0, none⟩ 1 1 [.int .u8 (y : Int)] hx rfl ?_ ?_ (by unfold maxLen; omega) (by omega) hbase ?_
 ·intro j u hj
  match j, hj with
  | 0, hj =>
   simp at hj
   subst hj
   simpa [Addr.add] using hc
 ·intro u hu
  simp at hu
  subst hu
  rfl
 ·intro v' w' h2 h3 _
  refine h v' w' ?_ h3
  show World.ownsRow _ _ _ _ _ _ _
  rw [vb_append]
  exact h2
theorem own_shape {w : World} {base : Nat} {e : TypeId} {size : Nat} {v : Value} {n : Nat} {xs : List Value} (h : w.ownsRow base e size v n xs) : ∃ a cap, v = .slice a n cap := by
 rcases h.2 with ⟨rfl, rfl⟩ | ⟨g, cap, cur, rfl, _⟩
 ·exact ⟨_, _, rfl⟩
 ·exact ⟨_, _, rfl⟩
end Go.Proofs.YtckbhciehmokdaaGreatDoor
namespace Go.Proofs.YtckbhciehmokdaaGreatDoor
set_option maxRecDepth 100000
set_option maxHeartbeats 8000000
open Go.RowKit
theorem below_app {B : Nat} {w w1 w' : World} {base : Nat} {v : Value} {n : Nat} {xs : List Value} {e : TypeId} {size : Nat} (hb : Below B w w1) (ho : w1.ownsRow base e size v n xs) (hg : w1.grownBy w' v.ownBlock) (h1 : B <= base) (h2 : B <= w1.heap.size) : Below B w w' :=
 hb.grown hg h2 (fun q hq => Nat.le_trans h1 (World.ownsRow.lt ho q hq).1)
theorem tell_byte (base x : Nat) (v : Value) (bs : List Nat) (w : World) (ho : w.ownsRow base 5 1 v bs.length (vb bs)) (hb : base <= w.heap.size) (hn : bs.length <= 65536) :
  Calls Tryz.prog 56 #[v, .agg #[.int .i64 0, .int .i64 0, .int .u8 (x : Int)]] w fun e w' => ∃ v', e = .returned v' /\ w'.ownsRow base 5 1 v' (bs.length + 1) (vb (bs ++ [x])) /\ Below base w w' := by
 obtain ⟨n, hnn⟩ : ∃ n, n = bs.length := ⟨_, rfl⟩
 rw [<- hnn] at ho hn ⊢
 have HO := LH ho
 have HB := LH hb
 clear ho hb hnn
 go_enter Tryz.func56, Tryz.ntmps56
 go_wp2_with fail
 refine (isByte_any 0 0 x _).mono ?_
 rintro e w1 ⟨rfl, hb1⟩
 obtain ⟨hT, hb2, _⟩ := facts1 hb1
 obtain ⟨c0, c1, c2⟩ := tk_cells hT
 have KO := LH (own_keep HO.out hb2)
 have KB := LH (hb2.mono HB.out)
 have A1 : Hid _ := KO.out.alloc (.cells #[.int .u8 (x : Int)] 5)
 have A2 : Hid ((w1.alloc (.cells #[.int .u8 (x : Int)] 5)).cell? ⟨w1.heap.size, 0, none⟩ = some (.int .u8 (x : Int))) := (Has.new w1 (.cells #[.int .u8 (x : Int)] 5)).one.1
 have A3 : Hid (base <= w1.heap.size) := Nat.le_trans HB.out KB.out.size
 have A4 : Hid (Below base w (w1.alloc (.cells #[.int .u8 (x : Int)] 5))) := KB.out.alloc A3.out _
 clear hb1 hT hb2
 go_wp2_with (at_builtin; (refine wpList_append_byte rfl (.tmp 7) (.tmp 10) rfl base _ n bs rfl A1.out w1.heap.size x rfl A2.out (by omega) (by have := A3.out; simp; omega) ?_; intro v' w' ho hg; have hb := LH (below_app A4.out A1.out hg.out (Nat.le_refl _) (by have := A3.out; simp; omega)); have hO := LH ho.out; clear ho hg))
 go_ret
 exact ⟨_, rfl, hO.out, hb.out⟩
theorem own_cell {w : World} {base n size : Nat} {e : TypeId} {v : Value} {xs : List Value} (h : w.ownsRow base e size v n xs) (hn : 0 < n) :
  ∃ b off cap, v = .slice (some ⟨b, off, none⟩) n cap /\ off = 0 /\ ∀ k, k < n * size -> w.cell? ⟨b, off + k, none⟩ = xs[k]? := by
 obtain ⟨h1, h2⟩ := h
 rcases h2 with ⟨rfl, rfl⟩ | ⟨g, cap, cur, rfl, hb, hg, hc1, hc2, hc3, hc4⟩
 ·omega
 ·refine ⟨g, 0, cap, rfl, rfl, fun k hk => ?_⟩
  have hx : Has w g (.cells cur e (0, 0)) := hg
  rw [Nat.zero_add, hx.cell, <- hc4, List.getElem?_take_of_lt hk]
  simp
theorem own_byte {w : World} {base n : Nat} {v : Value} {bs : List Nat} (h : w.ownsRow base 5 1 v n (vb bs)) (k : Nat) (hk : k < bs.length) :
  ∃ b off cap, v = .slice (some ⟨b, off, none⟩) n cap /\ w.cell? ⟨b, off + k, none⟩ = some (.int .u8 ((bs[k]?.getD 0 : Nat) : Int)) := by
 have hl : n = bs.length := by simpa [vb] using h.1.symm
 obtain ⟨b, off, cap, rfl, _, hc⟩ := own_cell h (by omega)
 refine ⟨b, off, cap, rfl, ?_⟩
 rw [hc k (by omega), vb_get, List.getElem?_eq_getElem hk]
 rfl
theorem tell_copy (base len far : Nat) (v : Value) (bs : List Nat) (w : World) (ho : w.ownsRow base 5 1 v bs.length (vb bs)) (hb : base <= w.heap.size) (hn : bs.length + len <= 65536) (h1 : 3 <= len) (h3 : 1 <= far) (h4 : far <= bs.length) :
  Calls Tryz.prog 56 #[v, .agg #[.int .i64 (len : Int), .int .i64 (far : Int), .int .u8 0]] w fun e w' => ∃ v', e = .returned v' /\ w'.ownsRow base 5 1 v' (bs.length + len) (vb (If.cp far len bs)) /\ Below base w w' := by
 obtain ⟨n, hnn⟩ : ∃ n, n = bs.length := ⟨_, rfl⟩
 rw [<- hnn] at ho hn h4 ⊢
 have HO := LH ho
 have HB := LH hb
 have HN := LH hnn
 have hd : decide (len = 0 /\ far = 0) = false := by simp; omega
 have HI := LH (fun W => isByte_any len far 0 W)
 rw [hd] at HI
 clear ho hb hnn hd
 go_enter Tryz.func56, Tryz.ntmps56
 go_wp2_with fail
 refine (HI.out _).mono ?_
 rintro e w1 ⟨rfl, hb1⟩
 obtain ⟨hT, hb2, _⟩ := facts1 hb1
 obtain ⟨c0, c1, c2⟩ := tk_cells hT
 have KO := LH (own_keep HO.out hb2)
 have KB := LH (hb2.mono HB.out)
 have KT := LH hT
 clear hb1 hT hb2 HI
 go_wp2_with fail
 go_loopw [0, 14] (fun s0 s14 wr => ∃ j : Nat, s14 = .int .i64 (j : Int) /\ j <= len /\ Hid (wr.ownsRow base 5 1 s0 (n + j) (vb (If.cp far j bs))) /\ Hid (Below base w wr) /\ Has wr w.heap.size (.cells #[.int .i64 (len : Int), .int .i64 (far : Int), .int .u8 0] 48 (0, 0))) (fun _ s _ => len - (intOf s).toNat)
 case atStart => exact ⟨0, rfl, Nat.zero_le _, KO, KB, KT.out⟩
 case round =>
  obtain ⟨j, rfl, hj, KO, KB, KT⟩ := hrel
  obtain ⟨c0, c1, c2⟩ := tk_cells KT
  by_cases hlt : j < len
  ·have hcl : (If.cp far j bs).length = n + j := by rw [If.cp_length, HN.out]
   obtain ⟨b, off, cap, rfl, hcell⟩ := own_byte KO.out (n + j - far) (by rw [hcl]; omega)
   obtain ⟨y, hy⟩ : ∃ y, y = (If.cp far j bs)[n + j - far]?.getD 0 := ⟨_, rfl⟩
   rw [<- hy] at hcell
   have hsub : IntKind.i64.wrap (((n + j : Nat) : Int) - (far : Int)) = ((n + j - far : Nat) : Int) := by rw [IntWalk.i64_in _ (by omega)]; omega
   have HE : Hid (If.cp far (j + 1) bs = If.cp far j bs ++ [y]) := by show _ = _; rw [If.cp_snoc, hcl, <- hy]
   have A1 : Hid _ := KO.out.alloc (.cells #[.int .u8 (y : Int)] 5)
   have A2 : Hid ((wr.alloc (.cells #[.int .u8 (y : Int)] 5)).cell? ⟨wr.heap.size, 0, none⟩ = some (.int .u8 (y : Int))) := (Has.new wr (.cells #[.int .u8 (y : Int)] 5)).one.1
   have A3 : Hid (base <= wr.heap.size) := Nat.le_trans HB.out KB.out.size
   have A4 : Hid (Below base w (wr.alloc (.cells #[.int .u8 (y : Int)] 5))) := KB.out.alloc A3.out _
   have A5 := LH (KT.alloc (.cells #[.int .u8 (y : Int)] 5))
   clear hy hcl KO KB KT
   go_wp2_with (at_builtin; (refine wpList_append_byte rfl (.tmp 16) (.tmp 25) rfl base _ (n + j) _ rfl A1.out wr.heap.size y rfl A2.out (by omega) (by have := A3.out; simp; omega) ?_; intro v' w' ho hg; have hb := LH (below_app A4.out A1.out hg.out (Nat.le_refl _) (by have := A3.out; simp; omega)); have hO := LH ho.out; have hT := LH ((hg.out.block _ A5.out.lt (own_ne_ty A1.out A5.out (by decide)).symm).trans A5.out); clear ho hg))
   go_roundw
   case rel => exact ⟨j + 1, by go_num, by omega, (by show World.ownsRow _ _ _ _ _ _ _; rw [HE.out]; exact hO.out), hb, hT.out⟩
   case measure => simp [intOf]; omega
  ·obtain rfl : j = len := by omega
   go_wp2_with fail
   go_ret
   exact ⟨_, rfl, KO.out, KB.out⟩
theorem tell_any (base : Nat) (t : If.Tk) (v : Value) (bs : List Nat) (w : World) (ht : If.Val t bs.length) (ho : w.ownsRow base 5 1 v bs.length (vb bs)) (hb : base <= w.heap.size) (hn : bs.length + If.sz t <= 65536) :
  Calls Tryz.prog 56 #[v, tkv t] w fun e w' => ∃ v', e = .returned v' /\ w'.ownsRow base 5 1 v' (If.tell1 bs t).length (vb (If.tell1 bs t)) /\ Below base w w' := by
 obtain ⟨len, far, x⟩ := t
 rw [If.tell1_length]
 rcases ht with ⟨⟨h1, h2, h3⟩ | ⟨h1, h2, h3, h4, h5⟩, h6⟩
 ·simp only at h1 h2 h3
  subst h1 h2
  have := tell_byte base x v bs w ho hb (by have := If.sz_pos ⟨0, 0, x⟩; omega)
  exact this
 ·simp only at h1 h2 h3 h4 h5 h6
  subst h1
  have e1 : If.sz ⟨len, far, 0⟩ = len := by unfold If.sz; simp only; rw [if_neg (by omega)]
  have e2 : If.tell1 bs ⟨len, far, 0⟩ = If.cp far len bs := by unfold If.tell1; simp only; rw [if_neg (by omega)]
  rw [e1] at hn ⊢
  rw [e2]
  exact tell_copy base len far v bs w ho hb hn h2 h4 h6
theorem toks_sum {ts : List If.Tk} {i : Nat} {t : If.Tk} (h : ts[i]? = some t) : (If.tell (ts.take i)).length + If.sz t <= (If.tell ts).length := by
 have h1 := If.tell_take_succ h
 have h2 := If.tell1_length (If.tell (ts.take i)) t
 rw [<- h1] at h2
 have h3 := (List.getElem?_eq_some_iff.1 h).1
 have h4 := If.tell_take_le ts (ts.length - (i + 1)) (i + 1) (by omega)
 omega
theorem own_token {w : World} {base : Nat} {v : Value} {ts : List If.Tk} (h : w.ownsRow base 48 3 v ts.length (tc ts)) (i : Nat) (hi : i < ts.length) :
  ∃ b off cap, v = .slice (some ⟨b, off, none⟩) ts.length cap /\ w.cell? ⟨b, off + i * 3, none⟩ = some (.int .i64 (ts[i].len : Int)) /\ w.cell? ⟨b, off + i * 3 + 1, none⟩ = some (.int .i64 (ts[i].far : Int)) /\ w.cell? ⟨b, off + i * 3 + 2, none⟩ = some (.int .u8 (ts[i].lit : Int)) := by
 obtain ⟨b, off, cap, rfl, _, hc⟩ := own_cell h (by omega)
 obtain ⟨h1, h2, h3⟩ := tc_get ts i ts[i] (List.getElem?_eq_getElem hi)
 rw [Nat.mul_comm 3 i] at h1 h2 h3
 exact ⟨b, off, cap, rfl, by rw [hc _ (by omega)]; exact h1, by rw [Nat.add_assoc, hc _ (by omega)]; exact h2, by rw [Nat.add_assoc, hc _ (by omega)]; exact h3⟩
end Go.Proofs.YtckbhciehmokdaaGreatDoor
namespace Go.Proofs.YtckbhciehmokdaaGreatDoor
set_option maxRecDepth 100000
set_option maxHeartbeats 8000000
open Go.RowKit
theorem ext_is (F : FuncId) (hcall : ∀ (args : Array Value) (wx : World), (callFunc F args).run Tryz.prog wx = .ok (.enter F args) wx) (caps : Array Value) (l : List Bool) (f : Nat -> Bool) (q1 q2 : Int) (a : Option Addr) (len cap N k : Nat) (w : World)
  (hs : Sl w (.slice a len cap) (Bs.pack l)) (hl : Hid (N = l.length)) (hN : N <= 1125899906842624) (hk : k <= 1125899906842624) (h1 : Hid (q1 = (N : Int))) (h2 : Hid (q2 = (k : Int)))
  (hnext : Hid (∀ (i : Nat) (wx : World), i < k -> Below w.heap.size w wx -> Calls Tryz.prog F (#[.int .i64 (i : Int)] ++ caps) wx fun e w' => e = .returned (.int .u8 ((f i).toNat : Int)) /\ Below wx.heap.size wx w')) :
  Calls Tryz.prog 91 #[.agg #[.slice a len cap, .int .i64 q1], .int .i64 q2, .func (.func F) #[] caps] w (OneRow w (more l f k)) := by
 rw [h1.out, h2.out]
 exact (ext_any F hcall caps l f a len cap N k ((N + k + 7) / 8) w hs hl hN hk rfl hnext).mono fun e w' h => h.pack (by rw [<- hl.out])
theorem joinBit (p : Nat) (a : Option Addr) (len cap : Nat) (M : Int) (m : List Bool) (i : Nat) (w : World) (hp : Has w p (.cells #[.slice a len cap, .int .i64 M] 64)) (hs : Sl w (.slice a len cap) (Bs.pack m)) (hi : i < m.length) (hm : m.length <= 2251799813685248) :
  Calls Tryz.prog 98 (#[.int .i64 (i : Int)] ++ #[.pointer (some ⟨p, 0, none⟩)]) w fun e w' => e = .returned (.int .u8 ((m[i]?.getD false).toNat : Int)) /\ w = w' := by
 show Calls Tryz.prog 98 #[.int .i64 (i : Int), .pointer (some ⟨p, 0, none⟩)] w _
 obtain ⟨b, hb⟩ : ∃ b, b = m[i]?.getD false := ⟨_, rfl⟩
 rw [<- hb]
 have HB := LH hb
 have HS := LH hs
 have HI := LH hi
 have HM := LH hm
 obtain ⟨c0, c1, f0, f1⟩ := hp.two
 clear hb hs hi hm hp
 go_enter Tryz.func98, Tryz.ntmps98
 go_wp2_with fail
 refine (bitAt_is _ m _ i b _ HS.out rfl HB HI.out HM.out).mono ?_
 rintro e w1 ⟨rfl, rfl⟩
 go_wp2
 go_ret
 exact ⟨rfl, rfl⟩
theorem more_all (l m : List Bool) : more l (fun i => m[i]?.getD false) m.length = l ++ m := by
 unfold more
 congr 1
 apply List.ext_getElem?
 intro i
 by_cases h : i < m.length <;> simp [h]
theorem join_ok (s t : Value) (l m : List Bool) (N M : Nat) (w : World) (hs : Sl w s (Bs.pack l)) (ht : Sl w t (Bs.pack m)) (hl : Hid (N = l.length)) (hm : Hid (M = m.length)) (hN : N <= 1125899906842624) (hM : M <= 1125899906842624) :
  Calls Tryz.prog 58 #[.agg #[s, .int .i64 (N : Int)], .agg #[t, .int .i64 (M : Int)]] w (RowPost w (l ++ m)) := by
 have HS := LH hs
 have HT := LH ht
 clear hs ht
 obtain ⟨a, len, cap, rfl, hl'⟩ := HS.out.shape
 obtain ⟨a2, len2, cap2, rfl, hl2'⟩ := HT.out.shape
 clear hl' hl2'
 obtain ⟨L, hL⟩ : ∃ L, L = l ++ m := ⟨_, rfl⟩
 rw [<- hL]
 have HLL := LH hL
 clear hL
 go_enter Tryz.func58, Tryz.ntmps58
 go_wp2_with fail
 refine (check_ok _ (Bs.pack l) N _ (HS.out.later (below3 _ _ _ _)) (by omega) (by rw [hl.out]; exact Bs.pack_right l)).mono ?_
 rintro e w1 ⟨rfl, hb1⟩
 obtain ⟨k1, k2, k3, kb, ks⟩ := facts3 hb1
 clear hb1
 obtain ⟨c0, c1, f0, f1⟩ := k2.two
 go_wp2_with fail
 refine (check_ok _ (Bs.pack m) M _ (HT.out.later kb) (by omega) (by rw [hm.out]; exact Bs.pack_right m)).mono ?_
 rintro e w2 ⟨rfl, hb2⟩
 have q1 := k1.later hb2
 have q2 := k2.later hb2
 have q3 := k3.later hb2
 have qb := kb.trans (hb2.mono (by omega))
 have qs := hb2.size
 clear k1 k2 k3 kb hb2 c0 c1 f0 f1
 obtain ⟨c0, c1, f0, f1⟩ := q1.two
 obtain ⟨d0, d1, g0, g1⟩ := q2.two
 have HX : Hid (∀ (i : Nat) (wx : World), i < M -> Below w2.heap.size w2 wx -> Calls Tryz.prog 98 (#[.int .i64 (i : Int)] ++ #[.pointer (some ⟨w.heap.size + 1, 0, none⟩)]) wx fun e w' => e = .returned (.int .u8 (((fun (i : Nat) => m[i]?.getD false) i).toNat : Int)) /\ Below wx.heap.size wx w') := by
  intro i wx hi hb
  refine (joinBit (w.heap.size + 1) a2 len2 cap2 (M : Int) m i wx (q2.later hb) ((HT.out.later qb).later hb) (by rw [<- hm.out]; exact hi) (by rw [<- hm.out]; omega)).mono ?_
  rintro e w' ⟨rfl, rfl⟩
  exact ⟨rfl, Below.refl _ _⟩
 have Q2 := LH q2
 go_wp2_with fail
 refine (ext_is 98 Tryz.call98 _ l (fun i => m[i]?.getD false) _ _ a len cap N M w2 (HS.out.later qb) hl hN hM rfl rfl HX).mono ?_
 clear HX c0 c1 f0 f1 d0 d1 g0 g1 Q2
 rw [hm.out, more_all, <- HLL.out]
 rintro e w3 ⟨g, n, rfl, hn, hg, hh, hb3⟩
 have HH := LH hh
 have HM := LH hn
 have k4 := q3.later hb3
 have kb4 := qb.trans (hb3.mono (by omega))
 clear hh hn q1 q2 q3 qb hb3
 obtain ⟨c0, c1, f0, f1⟩ := k4.two
 go_wp2
 refine bodyPost_ret (v := .tuple #[.agg #[.slice (some ⟨g, 0, none⟩) n n, .int .i64 (L.length : Int)], .int .i64 0]) (by simp [results, Tryz.results58, go_sem, c0, c1]) rfl ⟨g, n, rfl, HM.out, by omega, ?_, set2_below kb4 _ (by omega) _ _⟩
 exact Has.set (Has.set HH.out (by show g ≠ w.heap.size + 1 + 1; omega) _) (by show g ≠ w.heap.size + 1 + 1; omega) _
end Go.Proofs.YtckbhciehmokdaaGreatDoor
namespace Go.Proofs.YtckbhciehmokdaaGreatDoor
set_option maxRecDepth 100000
set_option maxHeartbeats 8000000
open Go.RowKit
theorem short1_ok (a b : Option Addr) (n c m d : Nat) (w : World) : Calls Tryz.prog 89 #[.slice a n c, .slice b m d] w fun e w' => e = .returned (.int .i64 (cmpv n m)) /\ w = w' := by
 go_enter Tryz.func89, Tryz.ntmps89
 go_wp2_with (go_at_call 90; refine (compare_any n m _).mono ?_; rintro e w' ⟨rfl, rfl⟩)
 go_ret
 exact ⟨rfl, rfl⟩
theorem min2_ok (a b : Option Addr) (n c m d L cap : Nat) (r : Value) (w : World) (h0 : w.cell? ⟨L, 0, none⟩ = some (.slice a n c)) (h1 : w.cell? ⟨L, 1, none⟩ = some (.slice b m d)) (hr : m < n /\ r = .slice b m d ∨ n <= m /\ r = .slice a n c) :
  Calls Tryz.prog 88 #[.slice (some ⟨L, 0, none⟩) 2 cap, .func (.func 89) #[] #[]] w fun e w' => e = .returned r /\ w = w' := by
 have HC := LH (fun W => short1_ok b a m d n c W)
 have HR := LH hr
 clear hr
 go_enter Tryz.func88, Tryz.ntmps88
 go_wp2
 go_loop [5, 6] (fun s t => (s = .slice a n c /\ t = .int .i64 1) ∨ (s = r /\ t = .int .i64 2)) (fun _ t => 2 - (intOf t).toNat)
 case atStart => exact Or.inl ⟨rfl, rfl⟩
 case round =>
  rcases hrel with ⟨rfl, rfl⟩ | ⟨rfl, rfl⟩
  ·rcases HR.out with ⟨hlt, rfl⟩ | ⟨hle, rfl⟩
   ·have e1 : cmpv m n = -1 := by unfold cmpv; rw [if_pos hlt]
    rw [e1] at HC
    clear e1 hlt HR
    go_wp2_with (go_at_call 89; refine (HC.out _).mono ?_; rintro e w' ⟨rfl, rfl⟩)
    go_round
    case rel => exact Or.inr ⟨rfl, rfl⟩
    case measure => simp [intOf]
   ·obtain ⟨q, hq, hq0⟩ : ∃ q : Int, q = cmpv m n /\ ¬ q < 0 := by
     refine ⟨_, rfl, ?_⟩
     unfold cmpv
     rw [if_neg (by omega)]
     split <;> omega
    rw [<- hq] at HC
    clear hq hle HR
    go_wp2_with (go_at_call 89; refine (HC.out _).mono ?_; rintro e w' ⟨rfl, rfl⟩)
    go_round
    case rel => exact Or.inr ⟨rfl, rfl⟩
    case measure => simp [intOf]
  ·rcases HR.out with ⟨_, rfl⟩ | ⟨_, rfl⟩ <;>
   ·clear HR HC
    go_wp2
    go_ret
    exact ⟨rfl, rfl⟩
theorem shortest_ok (a b : Option Addr) (n c m d L cap : Nat) (r : Value) (w : World) (h0 : w.cell? ⟨L, 0, none⟩ = some (.slice a n c)) (h1 : w.cell? ⟨L, 1, none⟩ = some (.slice b m d)) (hr : m < n /\ r = .slice b m d ∨ n <= m /\ r = .slice a n c) :
  Calls Tryz.prog 48 #[.slice (some ⟨L, 0, none⟩) 2 cap] w fun e w' => e = .returned r /\ w = w' := by
 have H := LH (min2_ok a b n c m d L cap r w h0 h1 hr)
 clear h0 h1 hr
 go_enter Tryz.func48, Tryz.ntmps48
 go_wp2_with fail
 refine H.out.mono ?_
 rintro e w1 ⟨rfl, rfl⟩
 go_wp2_with fail
 go_ret
 exact ⟨rfl, rfl⟩
end Go.Proofs.YtckbhciehmokdaaGreatDoor
namespace Go.Proofs.YtckbhciehmokdaaGreatDoor
set_option maxRecDepth 100000
set_option maxHeartbeats 8000000
open Go.ChangeShapes Go.WideShapes Go.ChangeAt Go.RowKit Go.Joins
def Capped (v : Value) : Prop := ∀ a len cap, v = .slice a len cap -> len <= cap
theorem bytes_cap {H : Type} {enc : TypeId × Value -> H} {W : World} {base : Nat} {v : Value} {d : DataW H} {p : List MemPlace} (hv : Value.okWide Tryz.prog W .any base 22 v)
  (h : DataW.Trod enc Tryz.prog W 0 (fun _ => true) true 22 v d p) : Capped v := by
 obtain ⟨a1, len, cap, rfl⟩ := okWide_slice Tryz.underlying22 hv
 obtain ⟨fuel, hf⟩ := h
 intro a2 len2 cap2 e
 injection e with e1 e2 e3
 subst e1 e2 e3
 rcases open_ints Tryz.underlying22 Tryz.underlying5 Tryz.cellsU8 hf with ⟨hcs, _⟩ | ⟨a, len', cap', zs, hcs, _, hl, _⟩
 ·simp [Value.cells] at hcs
  omega
 ·simp [Value.cells] at hcs
  omega
end Go.Proofs.YtckbhciehmokdaaGreatDoor
