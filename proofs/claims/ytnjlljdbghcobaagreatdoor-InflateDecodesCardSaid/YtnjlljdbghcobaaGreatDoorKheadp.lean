/- Numbers in memory of the call's own; an append whose run is known. -/
import Derived.Test.YtnjlljdbghcobaaGreatDoorHcoded
import Derived.Test.YtnjlljdbghcobaaGreatDoorHround
import Derived.Test.YtnjlljdbghcobaaGreatDoorHcmp
import Derived.Test.YtnjlljdbghcobaaGreatDoorQtail
import Derived.Laws.CopyOwn
import Derived.Deep.RegionLaw
import Derived.Lib.Mul64
import Derived.Laws.Bits64b

namespace Go.Proofs.YtnjlljdbghcobaaGreatDoor
set_option maxRecDepth 100000
open Go.RowKit

/-- Numbers as cells. -/
def vn (xs : List Nat) : List Value := xs.map fun (x : Nat) => Value.int .i64 (x : Int)
theorem vn_length (xs : List Nat) : (vn xs).length = xs.length := by simp [vn]
theorem vn_append (xs ys : List Nat) : vn (xs ++ ys) = vn xs ++ vn ys := by simp [vn]
theorem vn_get (xs : List Nat) (i : Nat) : (vn xs)[i]? = (xs[i]?).map fun (x : Nat) => Value.int .i64 (x : Int) := by simp [vn]
theorem vn_one (xs : List Nat) : ∀ v ∈ vn xs, v.oneCell' = true := by
  intro v hv
  simp only [vn, List.mem_map] at hv
  obtain ⟨x, _, rfl⟩ := hv
  rfl
/-- A block that holds numbers. -/
def nums (xs : List Nat) : Obj := .cells (vn xs).toArray 3 (0, 0)
theorem nums_cell {w : World} {g : Nat} {xs : List Nat} (h : Has w g (nums xs)) (i : Nat) (hi : i < xs.length) : w.cell? ⟨g, i, none⟩ = some (.int .i64 ((xs[i]?.getD 0 : Nat) : Int)) := by
  have h' : Has w g (.cells (vn xs).toArray 3 (0, 0)) := h
  rw [h'.cell, List.getElem?_toArray, vn_get, List.getElem?_eq_getElem hi]
  rfl

/-- An append whose run is known. -/
theorem wpList_append_is {P : Program} {w : World} {ops : Array Oper} {rest : List Oper} {o : Oper} {a : Act} {Q : Exit → Act → World → Prop} (hgd : o.guard = none) (s x : Operand) (t : TypeId)
    (hop : o.op = Op.call { callee := Callee.builtin Builtin.append, args := #[s, x], argTypes := #[t, t] }) (S X v : Value) (w' : World) (hs : a.eval s = S) (hx : a.eval x = X)
    (hrun : (Builtin.append_ #[t, t] o.type #[S, X]).run P w = .ok v w') (h : wpList P ops Q rest (a.put o.dst v) w') : wpList P ops Q (o :: rest) a w :=
  wpList_plain hgd fun K hK => by
    unfold Oper.wp
    simp [execOp, hop, resolve, invoke, builtin, hs, hx, hrun, Result.andThen]
    exact hK _ _ h

/-- A list of numbers of the call's own stays where nothing that was there turned. -/
theorem own_keep {w w' : World} {base : Nat} {e : TypeId} {size : Nat} {v : Value} {n : Nat} {xs : List Value} (h : w.ownsRow base e size v n xs) (hb : Below w.heap.size w w') : w'.ownsRow base e size v n xs := by
  obtain ⟨h1, h2⟩ := h
  refine ⟨h1, ?_⟩
  rcases h2 with h | ⟨g, c, cur, h, hbg, hg, r⟩
  · exact Or.inl h
  · exact Or.inr ⟨g, c, cur, h, hbg, (hb.block g (lt_of_block hg)).trans hg, r⟩
/-- .. and where one block below the bound turned. -/
theorem own_only {w w' : World} {base R : Nat} {e : TypeId} {size : Nat} {v : Value} {n : Nat} {xs : List Value} (h : w.ownsRow base e size v n xs) (ho : Only R w w') (hR : R < base) : w'.ownsRow base e size v n xs := by
  obtain ⟨h1, h2⟩ := h
  refine ⟨h1, ?_⟩
  rcases h2 with h | ⟨g, c, cur, h, hbg, hg, r⟩
  · exact Or.inl h
  · exact Or.inr ⟨g, c, cur, h, hbg, (ho.block g (lt_of_block hg) (by omega)).trans hg, r⟩
theorem own_sl {w : World} {base : Nat} {e : TypeId} {size : Nat} {v : Value} {n : Nat} {xs : List Value} (h : w.ownsRow base e size v n xs) : ∃ a cap, v = .slice a n cap := by
  rcases h.2 with ⟨rfl, rfl⟩ | ⟨g, cap, cur, rfl, _⟩
  · exact ⟨_, _, rfl⟩
  · exact ⟨_, _, rfl⟩

/-- The call's own numbers, and where they lie. -/
def Own (base : Nat) (w : World) (s : Value) (xs : List Nat) : Prop := w.ownsRow base 3 1 s xs.length (vn xs)
theorem Own.nil (base : Nat) (w : World) : Own base w (.slice none 0 0) [] := ⟨rfl, Or.inl ⟨rfl, rfl⟩⟩
theorem Own.shape {base : Nat} {w : World} {s : Value} {xs : List Nat} (h : Own base w s xs) : ∃ a cap, s = .slice a xs.length cap := own_sl h
theorem Own.keep {base : Nat} {w w' : World} {s : Value} {xs : List Nat} (h : Own base w s xs) (hb : Below w.heap.size w w') : Own base w' s xs := own_keep h hb
theorem Own.only {base R : Nat} {w w' : World} {s : Value} {xs : List Nat} (h : Own base w s xs) (ho : Only R w w') (hR : R < base) : Own base w' s xs := own_only h ho hR
theorem Own.cells {base : Nat} {w : World} {a : Option Addr} {len cap : Nat} {xs : List Nat} (h : Own base w (.slice a len cap) xs) (hl : 0 < xs.length) :
    ∃ g, a = some ⟨g, 0, none⟩ ∧ g < w.heap.size ∧ base ≤ g ∧ ∀ i, i < xs.length → w.cell? ⟨g, i, none⟩ = some (.int .i64 ((xs[i]?.getD 0 : Nat) : Int)) := by
  have h0 := h
  rcases h.2 with ⟨h1, h2⟩ | ⟨g, c, cur, h1, hbg, hg, r⟩
  · omega
  · cases h1
    refine ⟨g, rfl, lt_of_block hg, hbg, fun i hi => ?_⟩
    have := World.ownsRow.cellAt (h := h0) i (by omega)
    rw [this, vn_get, List.getElem?_eq_getElem hi]
    rfl
theorem Own.cap {base : Nat} {w : World} {a : Option Addr} {len cap : Nat} {xs : List Nat} (h : Own base w (.slice a len cap) xs) : len = xs.length ∧ len ≤ cap := by
  rcases h.2 with ⟨h1, h2⟩ | ⟨g, c, cur, h1, hbg, hg, r⟩
  · injection h1 with e1 e2 e3
    omega
  · injection h1 with e1 e2 e3
    have := r.1
    refine ⟨e2, ?_⟩
    rw [e2, e3]; omega
theorem Own.weaken {base base' : Nat} {w : World} {v : Value} {xs : List Nat} (h : Own base w v xs) (hb : base' ≤ base) : Own base' w v xs := by
  refine ⟨h.1, ?_⟩
  rcases h.2 with h2 | ⟨g, c, cur, h1, hbg, hg, r⟩
  · exact Or.inl h2
  · exact Or.inr ⟨g, c, cur, h1, by omega, hg, r⟩
theorem Own.block {base : Nat} {w : World} {v : Value} {xs : List Nat} (h : Own base w v xs) : ∀ k, v.ownBlock = some k → base ≤ k := by
  intro k e
  rcases h.2 with ⟨h1, h2⟩ | ⟨g, c, cur, h1, hbg, hg, r⟩
  · rw [h1] at e; simp [Value.ownBlock] at e
  · rw [h1] at e
    simp only [Value.ownBlock, Option.some.injEq] at e
    omega
theorem Own.zl {base : Nat} {w : World} {s : Value} {xs : List Nat} (h : Own base w s xs) (h2 : xs.length ≤ 17592186044416) : Zl w s (xs.map fun (x : Nat) => (x : Int)) := by
  obtain ⟨a, cap, rfl⟩ := h.shape
  by_cases h0 : xs = []
  · subst h0
    rcases h.2 with ⟨h1, h3⟩ | ⟨g, c, cur, h1, hbg, hg, r⟩
    · cases h1
      exact ⟨none, 0, 0, rfl, rfl, by omega, fun _ => ⟨rfl, rfl⟩, fun h => absurd h (by omega)⟩
    · cases h1
      exact ⟨_, 0, _, rfl, rfl, by omega, fun h => by simp at h, fun h => absurd h (by simp)⟩
  · have hl : 0 < xs.length := List.length_pos_iff.2 h0
    obtain ⟨g, rfl, hg, hb, hc⟩ := h.cells hl
    refine ⟨_, xs.length, cap, rfl, by simp, h2, fun h => by simp at h, fun _ => ⟨g, 0, rfl, hg, fun i hi => ?_⟩⟩
    rw [Nat.zero_add, hc i hi, List.getElem?_map, List.getElem?_eq_getElem hi]
    rfl

/-- Numbers behind the call's own: from a block that holds them. -/
theorem nums_append {w : World} {base : Nat} {v : Value} {xs : List Nat} (hown : Own base w v xs) (ty : TypeId) (g m cap : Nat) (ys : List Nat) (hg : Has w g (nums ys)) (hm : m = ys.length) (hm0 : 0 < m) (h1 : xs.length + m ≤ 100000) (hb : base ≤ w.heap.size) :
    ∃ v' w', (Builtin.append_ #[33, 33] ty #[v, .slice (some ⟨g, 0, none⟩) m cap]).run Tryz.prog w = .ok v' w' ∧ Own base w' v' (xs ++ ys) ∧ w.grownBy w' v.ownBlock := by
  subst hm
  obtain ⟨i0, hi, hz0, hz1, hz2⟩ := info_parts Tryz.infoInt
  obtain ⟨v', w', h1, h2, h3, _⟩ := run_append_own (P := Tryz.prog) (w := w) base 33 ty 3 i0 (.int .i64 0) 1 8 Tryz.underlying33 hi hz0 hz1 hz2 rfl (by decide) v xs.length (vn xs) hown ⟨g, 0, none⟩ ys.length cap (vn ys) (by rw [vn_length]; omega)
    (fun j u hj => by
      have e : (⟨g, 0, none⟩ : Addr).add j = ⟨g, j, none⟩ := by cases j <;> simp [Addr.add]
      have hj2 := (List.getElem?_eq_some_iff.1 hj).1
      rw [vn_length] at hj2
      rw [e, nums_cell hg j hj2]
      rw [vn_get, List.getElem?_eq_getElem hj2] at hj
      rw [List.getElem?_eq_getElem hj2]
      simpa using hj)
    (vn_one _) (by unfold maxLen; omega) (by omega) hb
  refine ⟨v', w', h1, ?_, h3⟩
  unfold Own
  rw [List.length_append, vn_append]
  exact h2

theorem vn_splice (xs : List Nat) (k : Nat) (ys : List Nat) : splice (vn xs) k (vn ys) = vn (splice xs k ys) := by simp [splice, vn]

/-- 'copy' of numbers into a block of numbers that is known whole. -/
theorem wpList_copy_nums {w : World} {ops : Array Oper} {rest : List Oper} {o : Oper} {a : Act} {Q : Exit → Act → World → Prop} (hgd : o.guard = none) (d s : Operand)
    (ho : o.op = .call { callee := .builtin .copy, args := #[d, s], argTypes := #[33, 33] }) (dLen dCap sLen sCap g off b so : Nat) (hd : a.eval d = .slice (some ⟨g, off, none⟩) dLen dCap) (hs : a.eval s = .slice (some ⟨b, so, none⟩) sLen sCap)
    (cur cs : List Nat) (hg : Has w g (nums cur)) (hn : cs.length = Nat.min sLen dLen) (hc : ∀ j, j < cs.length → w.cell? ⟨b, so + j, none⟩ = some (.int .i64 ((cs[j]?.getD 0 : Nat) : Int))) (hfit : off + cs.length ≤ cur.length)
    (h : ∀ w', Has w' g (nums (splice cur off cs)) → Only g w w' → wpList Tryz.prog ops Q rest (a.put o.dst (goInt cs.length)) w') : wpList Tryz.prog ops Q (o :: rest) a w := by
  refine wpList_copy_only hgd d s 33 33 ho 3 Tryz.underlying33 (by kernel_rfl) (some ⟨g, off, none⟩) (some ⟨b, so, none⟩) dLen dCap sLen sCap hd hs g off (vn cur) 3 hg (vn cs) (by rw [vn_length]; exact hn) (fun _ => ⟨rfl, _, rfl, fun j v hj => ?_⟩)
    (by rw [vn_length, vn_length]; exact hfit) (vn_one _) ?_
  · have hj2 := (List.getElem?_eq_some_iff.1 hj).1
    rw [vn_length] at hj2
    have e : (⟨b, so, none⟩ : Addr).add j = ⟨b, so + j, none⟩ := by cases j <;> simp [Addr.add]
    rw [e, hc j hj2]
    rw [vn_get, List.getElem?_eq_getElem hj2] at hj
    rw [List.getElem?_eq_getElem hj2]
    simpa using hj
  · intro w' hg' ho'
    rw [vn_length]
    refine h w' ?_ ho'
    have h2 := hg'.out
    rw [vn_splice] at h2
    exact h2

/-- The same as one step of a region that draws its order. -/
theorem step_copy_nums {ops : Array Oper} {o : Oper} {a : Act} {w : World} {K : Act → World → Prop} {Q : Exit → Act → World → Prop} {E : Prop} (hgd : o.guard = none) (d s : Operand)
    (ho : o.op = .call { callee := .builtin .copy, args := #[d, s], argTypes := #[33, 33] }) (dLen dCap sLen sCap g off b so : Nat) (hd : a.eval d = .slice (some ⟨g, off, none⟩) dLen dCap) (hs : a.eval s = .slice (some ⟨b, so, none⟩) sLen sCap)
    (cur cs : List Nat) (B : Nat) (w0 : World) (hb : Below B w0 w) (hBg : B ≤ g) (hg : Has w g (nums cur)) (hn : cs.length = Nat.min sLen dLen) (hc : ∀ j, j < cs.length → w.cell? ⟨b, so + j, none⟩ = some (.int .i64 ((cs[j]?.getD 0 : Nat) : Int))) (hfit : off + cs.length ≤ cur.length)
    (h : ∀ w', Has w' g (nums (splice cur off cs)) → Below B w0 w' → K (a.put o.dst (goInt cs.length)) w') :
    if Region.wanted o (yielded ops a.tmps) = true then Oper.wp Tryz.prog o a w K Q else E := by
  refine step_copy_splice hgd d s 33 33 ho 3 Tryz.underlying33 (by kernel_rfl) (some ⟨g, off, none⟩) (some ⟨b, so, none⟩) dLen dCap sLen sCap hd hs g off (vn cur) 3 hg (vn cs) (by rw [vn_length]; exact hn) (fun _ => ⟨rfl, _, rfl, fun j v hj => ?_⟩)
    (by rw [vn_length, vn_length]; exact hfit) (vn_one _) B w0 hb hBg ?_
  · have hj2 := (List.getElem?_eq_some_iff.1 hj).1
    rw [vn_length] at hj2
    have e : (⟨b, so, none⟩ : Addr).add j = ⟨b, so + j, none⟩ := by cases j <;> simp [Addr.add]
    rw [e, hc j hj2]
    rw [vn_get, List.getElem?_eq_getElem hj2] at hj
    rw [List.getElem?_eq_getElem hj2]
    simpa using hj
  · intro w' hg' ho'
    rw [vn_length]
    refine h w' ?_ ho'
    have h2 := hg'.out
    rw [vn_splice] at h2
    exact h2
end Go.Proofs.YtnjlljdbghcobaaGreatDoor

/- Contract of the library's slices.Repeat, of one number. -/
namespace Go.Proofs.YtnjlljdbghcobaaGreatDoor
set_option maxRecDepth 100000
open Go.RowKit

namespace Mu
theorem maskN (a : Nat) (ha : a < 4294967296) : bits .and .u64 (a : Int) 4294967295 = (a : Int) := by
  have h := bits_and_u64_nat a 4294967295 (by omega) (by omega)
  have e : a &&& 4294967295 = a % 4294967296 := Nat.and_two_pow_sub_one_eq_mod a 32
  rw [e, Nat.mod_eq_of_lt ha] at h
  exact h
theorem divN (a : Nat) (ha : a < 4294967296) : (a : Int) / 4294967296 = 0 := by omega
theorem wrapN (a : Nat) (ha : a < 18446744073709551616) : IntKind.u64.wrap (a : Int) = (a : Int) := by rw [IntKind.wrap_u64]; omega
end Mu

set_option maxRecDepth 100000 in
set_option maxHeartbeats 1000000 in
theorem mul64_one (y : Nat) (hy : y < 4294967296) (w : World) : Calls Tryz.prog 179 #[.int .u64 1, .int .u64 (y : Int)] w fun e w' => e = .returned (.tuple #[.int .u64 0, .int .u64 (y : Int)]) ∧ w = w' := by
  have h1 := Mu.maskN y hy
  have h2 := Mu.maskN 1 (by omega)
  have h0 := Mu.maskN 0 (by omega)
  have d1 := Mu.divN y hy
  have w1 := Mu.wrapN y (by omega)
  simp only [Int.natCast_zero, Int.natCast_one] at h2 h0
  go_enter Tryz.func179, Tryz.ntmps179
  go_wp2
  go_ret2
  exact ⟨rfl, rfl⟩

set_option maxHeartbeats 1000000 in
theorem mul_one_is (y : Nat) (hy : y < 4294967296) (w : World) : Calls Tryz.prog 137 #[.int .u64 1, .int .u64 (y : Int)] w fun e w' => e = .returned (.tuple #[.int .u64 0, .int .u64 (y : Int)]) ∧ w = w' := by
  go_enter Tryz.func137, Tryz.ntmps137
  go_wp2_with (go_at_call 179; refine (mul64_one y hy _).mono ?_; rintro e w' ⟨rfl, rfl⟩)
  go_ret2
  exact ⟨rfl, rfl⟩

/-- The first n of m numbers are q, the others 0. -/
def rp (q n m : Nat) : List Nat := List.replicate n q ++ List.replicate (m - n) 0
theorem rp_length (q n m : Nat) (h : n ≤ m) : (rp q n m).length = m := by simp [rp]; omega
theorem rp_full (q m : Nat) : rp q m m = List.replicate m q := by simp [rp]
theorem rp_get (q n m i : Nat) (hi : i < n) : (rp q n m)[i]? = some q := by
  unfold rp
  rw [List.getElem?_append_left (by simpa using hi)]
  simp [hi]
theorem vn_rep (n q : Nat) : vn (List.replicate n q) = List.replicate n (.int .i64 (q : Int)) := by simp [vn]
theorem rp_splice (q n k m : Nat) (h : n + k ≤ m) : splice (rp q n m) n (List.replicate k q) = rp q (n + k) m := by
  unfold splice rp
  rw [List.take_append_of_le_length (by simp), List.take_of_length_le (by simp), List.length_replicate, List.drop_append, List.drop_of_length_le (by simp), List.nil_append, List.length_replicate, List.drop_replicate,
    show m - n - (n + k - n) = m - (n + k) by omega, ← List.append_assoc, List.replicate_append_replicate]
theorem made_nums (m : Nat) : madeCells #[Value.int .i64 0] m = (vn (rp 0 0 m)).toArray := by
  apply Array.toList_inj.1
  rw [toList_madeCells_one]
  simp [rp, vn]
theorem rp_zero (q m : Nat) : rp q 0 m = rp 0 0 m := by simp [rp]

/-- What Repeat leaves. -/
def RepPost (w : World) (q m : Nat) (e : Ending) (w' : World) : Prop :=
  ∃ g, e = .returned (.slice (some ⟨g, 0, none⟩) m m) ∧ Has w' g (nums (List.replicate m q)) ∧ w.heap.size ≤ g ∧ Below w.heap.size w w'

set_option maxRecDepth 100000 in
set_option maxHeartbeats 4000000 in
theorem repeat_one (b cap q m : Nat) (hm0 : 0 < m) (hm : m ≤ 1000) (w : World) (hb : b < w.heap.size) (hc : w.cell? ⟨b, 0, none⟩ = some (.int .i64 (q : Int))) :
    Calls Tryz.prog 89 #[.slice (some ⟨b, 0, none⟩) 1 cap, .int .i64 (m : Int)] w (RepPost w q m) := by
  have hmk := run_make_row' (P := Tryz.prog) 33 3 (.int .i64 0) 8 Tryz.underlying33 Tryz.infoInt rfl .i64 .i64 m (by omega) (by omega)
  obtain ⟨w1, hw1⟩ : ∃ w1, w1 = w.alloc (.cells (madeCells #[Value.int .i64 0] m) 3) := ⟨_, rfl⟩
  have hg1 : Has w1 w.heap.size (nums (rp q 0 m)) := by
    rw [hw1, rp_zero, made_nums]; exact Has.new w _
  have hb1 : Below w.heap.size w w1 := by rw [hw1]; exact below1 _ _
  have hcc : w1.cell? ⟨b, 0, none⟩ = some (.int .i64 (q : Int)) := by rw [hb1.cell (p := ⟨b, 0, none⟩) hb]; exact hc
  have HG1 := Lib.hid hg1
  have HB1 := Lib.hid hb1
  have HC := Lib.hid hcc
  have wy := Mu.wrapN m (by omega)
  have d0 : decide ((9223372036854775807 : Int) < (m : Int)) = false := decide_eq_false (by omega)
  have NEXT : Hid (∀ (n : Nat) (W : World), n < m → Has W w.heap.size (nums (rp q n m)) → ∀ j, j < (List.replicate (min n (m - n)) q).length → W.cell? ⟨w.heap.size, 0 + j, none⟩ = some (.int .i64 (((List.replicate (min n (m - n)) q)[j]?.getD 0 : Nat) : Int))) := by
    intro n W hlt hW j hj
    rw [List.length_replicate] at hj
    rw [Nat.zero_add, nums_cell hW j (by rw [rp_length _ _ _ (by omega)]; omega), rp_get _ _ _ _ (by omega), List.getElem?_replicate_of_lt hj]
  have ONE : Hid (∀ j, j < (List.replicate 1 q).length → w1.cell? ⟨b, 0 + j, none⟩ = some (.int .i64 (((List.replicate 1 q)[j]?.getD 0 : Nat) : Int))) := by
    intro j hj
    rw [List.length_replicate] at hj
    obtain rfl : j = 0 := by omega
    exact hcc
  clear hg1 hb1 hcc hc
  go_enter Tryz.func89, Tryz.ntmps89
  go_wp2_with (first | (go_at_call 137; refine (mul_one_is m (by omega) _).mono ?_; rintro e w' ⟨rfl, rfl⟩) | (rw [← hw1]; with_reducible refine wpList_copy_nums rfl (.tmp 31) (.tmp 32) rfl m m 1 cap w.heap.size 0 b 0 rfl rfl (rp q 0 m) (List.replicate 1 q) HG1.out ?hn ONE.out ?hf ?_; (case hn => (rw [List.length_replicate]; exact (Nat.min_eq_left (by omega)).symm)); (case hf => (rw [rp_length _ _ _ (by omega), List.length_replicate]; omega)); intro w2 hg2 ho2))
  have HG2 : Hid (Has w2 w.heap.size (nums (rp q 1 m))) := by
    have h := hg2
    rw [rp_splice q 0 1 m (by omega)] at h
    exact h
  have HB2 := Lib.hid (ho2.below HB1.out (Nat.le_refl _) HB1.out.size)
  clear hg2 ho2 HG1 HB1 HC ONE hw1 hmk
  go_wp2_with fail
  go_loopw [8] (fun s8 wr => ∃ n : Nat, s8 = .int .i64 (n : Int) ∧ 0 < n ∧ n ≤ m ∧ Hid (Has wr w.heap.size (nums (rp q n m))) ∧ Hid (Below w.heap.size w wr)) (fun s _ => m - (intOf s).toNat)
  case atStart => exact ⟨1, by go_num, by omega, by omega, HG2, HB2⟩
  case round =>
    obtain ⟨n, rfl, hn0, hnm, KG, KB⟩ := hrel
    by_cases hlt : n < m
    · have j0 : decide ((n : Int) < (m : Int)) = true := decide_eq_true (by omega)
      obtain ⟨k, hk⟩ : ∃ k, k = min n (m - n) := ⟨_, rfl⟩
      have HN := Lib.hid (NEXT.out n wr.drew hlt KG.out)
      rw [← hk] at HN
      have ek : Hid (Value.int .i64 (IntKind.i64.wrap ((n : Int) + (k : Int))) = .int .i64 ((n + k : Nat) : Int)) := by
        show _ = _
        rw [IntWalk.i64_in _ (by omega)]; norm_cast
      have KG2 : Hid (Has wr.drew w.heap.size (nums (rp q n m))) := KG.out
      have KB2 : Hid (Below w.heap.size w wr.drew) := KB.out.drew
      have hk1 : 0 < k ∧ n + k ≤ m := by omega
      have HK : Hid ((List.replicate k q).length = Nat.min n (m - n)) := by
        show _ = _
        rw [List.length_replicate, hk]
      have hne : ¬ m = n := by omega
      clear hk
      go_wp2
      go_region_law (refine step_copy_nums rfl (.tmp 41) (.tmp 44) rfl (m - n) (m - n) n m w.heap.size n w.heap.size 0 (by simp [Act.eval, Act.put]) (by simp [Act.eval, Act.put]) (rp q n m) (List.replicate k q) w.heap.size w KB2.out (Nat.le_refl _) KG2.out HK.out HN.out (by rw [rp_length _ _ _ (by omega), List.length_replicate]; omega) ?_; intro w3 hg3 hb3; rw [rp_splice q n k m hk1.2] at hg3; have HG3 := Lib.hid hg3; have HB3 := Lib.hid hb3; clear hg3 hb3)
      rw [IntWalk.i64_in ((n : Int) + (k : Int)) (by omega)]
      go_simp
      go_roundw
      case rel => exact ⟨.int .i64 ((n : Int) + (k : Int)), _, _, _, _, _, _, _, _, _, _, _, _, _, ⟨n + k, by go_num, by omega, hk1.2, HG3, HB3⟩, rfl⟩
      case measure => simp [intOf]; omega
    · obtain rfl : n = m := by omega
      go_wp2
      go_ret
      exact ⟨_, rfl, by have := KG.out; rw [rp_full] at this; exact this, Nat.le_refl _, KB.out⟩
end Go.Proofs.YtnjlljdbghcobaaGreatDoor

/- A header's cases, in plain numbers. Nothing of the program is named here. -/
namespace Go.Proofs.YtnjlljdbghcobaaGreatDoor
set_option maxRecDepth 100000
namespace Hd
theorem head_e1 {l : List Bool} {p : Nat} (h : l.length < p + 10) : head l p = ([], [], 0, 4) := by unfold head; rw [if_pos h]
theorem head_e3 {l : List Bool} {p a b : Nat} (h : p + 10 ≤ l.length) (ha : a = num l p 5 + 257) (hb : b = num l (p + 5) 5 + 1) (h3 : 286 < a ∨ 30 < b) : head l p = ([], [], 0, 3) := by
  subst ha hb; unfold head; rw [if_neg (by omega), if_pos h3]
theorem head_e4 {l : List Bool} {p a b : Nat} (h : p + 10 ≤ l.length) (ha : a = num l p 5 + 257) (hb : b = num l (p + 5) 5 + 1) (h3 : ¬ (286 < a ∨ 30 < b)) (h4 : l.length < p + 14) : head l p = ([], [], 0, 4) := by
  subst ha hb; unfold head; rw [if_neg (by omega), if_neg h3, if_pos h4]
theorem head_e5 {l : List Bool} {p a b c : Nat} (h : p + 14 ≤ l.length) (ha : a = num l p 5 + 257) (hb : b = num l (p + 5) 5 + 1) (hc : c = num l (p + 10) 4 + 4) (h3 : ¬ (286 < a ∨ 30 < b)) (h5 : l.length < p + 14 + 3 * c) : head l p = ([], [], 0, 4) := by
  subst ha hb hc; unfold head; rw [if_neg (by omega), if_neg h3, if_neg (by omega), if_pos h5]
theorem head_e6 {l : List Bool} {p a b c : Nat} {ls : List Nat} (h : p + 14 ≤ l.length) (ha : a = num l p 5 + 257) (hb : b = num l (p + 5) 5 + 1) (hc : c = num l (p + 10) 4 + 4) (hls : ls = cl l (p + 14) c) (h3 : ¬ (286 < a ∨ 30 < b)) (h5 : p + 14 + 3 * c ≤ l.length)
    (h6 : newE (zz ls) ≠ 0) : head l p = ([], [], 0, newE (zz ls)) := by
  subst ha hb hc hls; unfold head; rw [if_neg (by omega), if_neg h3, if_neg (by omega), if_neg (by omega), if_pos h6]
theorem head_run {l : List Bool} {p a b c : Nat} {ls : List Nat} (h : p + 14 ≤ l.length) (ha : a = num l p 5 + 257) (hb : b = num l (p + 5) 5 + 1) (hc : c = num l (p + 10) 4 + 4) (hls : ls = cl l (p + 14) c) (h3 : ¬ (286 < a ∨ 30 < b)) (h5 : p + 14 + 3 * c ≤ l.length)
    (h6 : newE (zz ls) = 0) : head l p = if (runs ls l (a + b) 400 [] (p + 14 + 3 * c)).2.2 ≠ 0 then ([], [], 0, (runs ls l (a + b) 400 [] (p + 14 + 3 * c)).2.2) else
      ((runs ls l (a + b) 400 [] (p + 14 + 3 * c)).1.take a, (runs ls l (a + b) 400 [] (p + 14 + 3 * c)).1.drop a, (runs ls l (a + b) 400 [] (p + 14 + 3 * c)).2.1, 0) := by
  subst ha hb hc hls; unfold head; rw [if_neg (by omega), if_neg h3, if_neg (by omega), if_neg (by omega), if_neg (by rw [h6]; simp)]

/-- Something is read, wherever. -/
theorem rd_ex (ls : List Nat) (l : List Bool) (p : Nat) : ∀ d j, 15 - j = d → j ≤ 15 → p + j ≤ l.length → ∃ r, Hf.Rd ls l p j r := by
  intro d
  induction d with
  | zero =>
    intro j h1 h2 h3
    obtain rfl : j = 15 := by omega
    exact ⟨_, Hf.Rd.last⟩
  | succ d ih =>
    intro j h1 h2 h3
    by_cases hl : p + j = l.length
    · exact ⟨_, Hf.Rd.short j (by omega) hl⟩
    · by_cases hh : ∃ k, Hf.Hit ls l p (j + 1) k
      · obtain ⟨k, hk⟩ := hh
        exact ⟨_, Hf.Rd.hit j k (by omega) (by omega) hk⟩
      · by_cases hb : ∃ k, Hf.Beg ls l p (j + 1) k
        · obtain ⟨k, hk⟩ := hb
          obtain ⟨r, hr⟩ := ih (j + 1) (by omega) (by omega) (by omega)
          exact ⟨r, Hf.Rd.next j k r (by omega) (by omega) (fun k h => hh ⟨k, h⟩) hk hr⟩
        · exact ⟨_, Hf.Rd.miss j (by omega) (by omega) (fun k h => hh ⟨k, h⟩) (fun k h => hb ⟨k, h⟩)⟩
theorem rd_lt {ls : List Nat} {l : List Bool} {p y q : Nat} {c : Int} (hp : p ≤ l.length) (h : rd ls l p = (y, q, c)) : (c = 0 → y < ls.length ∧ p < q ∧ q ≤ l.length) ∧ (c = 0 ∨ c = 4 ∨ c = 13) := by
  obtain ⟨r, hr⟩ := rd_ex ls l p 15 0 rfl (by omega) (by omega)
  have h1 := rd_is hr
  rw [h] at h1
  have h2 := rd_facts hr
  rw [← h1] at h2
  exact ⟨fun h0 => by have := h2.1 h0; simpa using this, h2.2.2⟩

/-- What is left of runs: lit and dist, or why not. -/
def fin (a : Nat) (r : List Nat × Nat × Int) : List Nat × List Nat × Nat × Int := if r.2.2 ≠ 0 then ([], [], 0, r.2.2) else (r.1.take a, r.1.drop a, r.2.1, 0)
theorem fin_bad (a : Nat) (x : List Nat) (q : Nat) (c : Int) (h : c ≠ 0) : fin a (x, q, c) = ([], [], 0, c) := by unfold fin; rw [if_pos h]
theorem fin_ok (a : Nat) (x : List Nat) (q : Nat) : fin a (x, q, 0) = (x.take a, x.drop a, q, 0) := by unfold fin; rw [if_neg (by simp)]
end Hd
end Go.Proofs.YtnjlljdbghcobaaGreatDoor
