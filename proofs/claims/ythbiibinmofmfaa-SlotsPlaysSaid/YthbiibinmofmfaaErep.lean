/- Contract of the library's slices.Repeat, of one number. -/
import Derived.Test.YthbiibinmofmfaaEstr
import Derived.Laws.CopyOwn
import Derived.Deep.RegionLaw
import Derived.Deep.OwnRows
import Derived.Lib.Mul64
import Derived.Laws.Bits64b

namespace Go.Proofs.Ythbiibinmofmfaa
set_option maxRecDepth 100000
open Go.RowKit

theorem Try.infoInt : (Try.prog.info? 3).map (fun i => (i.zero, i.size, i.bytes)) = some (some (.int .i64 0), 1, 8) := by kernel_rfl

/-- Numbers as cells. -/
def vn (xs : List Nat) : List Value := xs.map fun (x : Nat) => Value.int .i64 (x : Int)
theorem vn_length (xs : List Nat) : (vn xs).length = xs.length := by simp [vn]
theorem vn_append (xs ys : List Nat) : vn (xs ++ ys) = vn xs ++ vn ys := by simp [vn]
theorem vn_get (xs : List Nat) (i : Nat) : (vn xs)[i]? = (xs[i]?).map fun (x : Nat) => Value.int .i64 (x : Int) := by simp [vn]
theorem vn_one (xs : List Nat) : ∀ v ∈ vn xs, v.oneCell' = true := by
  intro v hv
  simp only [vn, List.mem_map] at hv
  obtain ⟨x, _, rfl⟩ := hv
  rfl
/-- A block that holds numbers. -/
def nums (xs : List Nat) : Obj := .cells (vn xs).toArray 3 (0, 0)
theorem nums_cell {w : World} {g : Nat} {xs : List Nat} (h : Has w g (nums xs)) (i : Nat) (hi : i < xs.length) : w.cell? ⟨g, i, none⟩ = some (.int .i64 ((xs[i]?.getD 0 : Nat) : Int)) := by
  have h' : Has w g (.cells (vn xs).toArray 3 (0, 0)) := h
  rw [h'.cell, List.getElem?_toArray, vn_get, List.getElem?_eq_getElem hi]
  rfl

theorem vn_splice (xs : List Nat) (k : Nat) (ys : List Nat) : splice (vn xs) k (vn ys) = vn (splice xs k ys) := by simp [splice, vn]

/-- 'copy' of numbers into a block of numbers that is known whole. -/
theorem wpList_copy_nums {w : World} {ops : Array Oper} {rest : List Oper} {o : Oper} {a : Act} {Q : Exit → Act → World → Prop} (hgd : o.guard = none) (d s : Operand)
    (ho : o.op = .call { callee := .builtin .copy, args := #[d, s], argTypes := #[36, 36] }) (dLen dCap sLen sCap g off b so : Nat) (hd : a.eval d = .slice (some ⟨g, off, none⟩) dLen dCap) (hs : a.eval s = .slice (some ⟨b, so, none⟩) sLen sCap)
    (cur cs : List Nat) (hg : Has w g (nums cur)) (hn : cs.length = Nat.min sLen dLen) (hc : ∀ j, j < cs.length → w.cell? ⟨b, so + j, none⟩ = some (.int .i64 ((cs[j]?.getD 0 : Nat) : Int))) (hfit : off + cs.length ≤ cur.length)
    (h : ∀ w', Has w' g (nums (splice cur off cs)) → Only g w w' → wpList Try.prog ops Q rest (a.put o.dst (goInt cs.length)) w') : wpList Try.prog ops Q (o :: rest) a w := by
  refine wpList_copy_only hgd d s 36 36 ho 3 Try.underlying36 (by kernel_rfl) (some ⟨g, off, none⟩) (some ⟨b, so, none⟩) dLen dCap sLen sCap hd hs g off (vn cur) 3 hg (vn cs) (by rw [vn_length]; exact hn) (fun _ => ⟨rfl, _, rfl, fun j v hj => ?_⟩)
    (by rw [vn_length, vn_length]; exact hfit) (vn_one _) ?_
  · have hj2 := (List.getElem?_eq_some_iff.1 hj).1
    rw [vn_length] at hj2
    have e : (⟨b, so, none⟩ : Addr).add j = ⟨b, so + j, none⟩ := by cases j <;> simp [Addr.add]
    rw [e, hc j hj2]
    rw [vn_get, List.getElem?_eq_getElem hj2] at hj
    rw [List.getElem?_eq_getElem hj2]
    simpa using hj
  · intro w' hg' ho'
    rw [vn_length]
    refine h w' ?_ ho'
    have h2 := hg'.out
    rw [vn_splice] at h2
    exact h2

/-- The same as one step of a region that draws its order. -/
theorem step_copy_nums {ops : Array Oper} {o : Oper} {a : Act} {w : World} {K : Act → World → Prop} {Q : Exit → Act → World → Prop} {E : Prop} (hgd : o.guard = none) (d s : Operand)
    (ho : o.op = .call { callee := .builtin .copy, args := #[d, s], argTypes := #[36, 36] }) (dLen dCap sLen sCap g off b so : Nat) (hd : a.eval d = .slice (some ⟨g, off, none⟩) dLen dCap) (hs : a.eval s = .slice (some ⟨b, so, none⟩) sLen sCap)
    (cur cs : List Nat) (B : Nat) (w0 : World) (hb : Below B w0 w) (hBg : B ≤ g) (hg : Has w g (nums cur)) (hn : cs.length = Nat.min sLen dLen) (hc : ∀ j, j < cs.length → w.cell? ⟨b, so + j, none⟩ = some (.int .i64 ((cs[j]?.getD 0 : Nat) : Int))) (hfit : off + cs.length ≤ cur.length)
    (h : ∀ w', Has w' g (nums (splice cur off cs)) → Below B w0 w' → K (a.put o.dst (goInt cs.length)) w') :
    if Region.wanted o (yielded ops a.tmps) = true then Oper.wp Try.prog o a w K Q else E := by
  refine step_copy_splice hgd d s 36 36 ho 3 Try.underlying36 (by kernel_rfl) (some ⟨g, off, none⟩) (some ⟨b, so, none⟩) dLen dCap sLen sCap hd hs g off (vn cur) 3 hg (vn cs) (by rw [vn_length]; exact hn) (fun _ => ⟨rfl, _, rfl, fun j v hj => ?_⟩)
    (by rw [vn_length, vn_length]; exact hfit) (vn_one _) B w0 hb hBg ?_
  · have hj2 := (List.getElem?_eq_some_iff.1 hj).1
    rw [vn_length] at hj2
    have e : (⟨b, so, none⟩ : Addr).add j = ⟨b, so + j, none⟩ := by cases j <;> simp [Addr.add]
    rw [e, hc j hj2]
    rw [vn_get, List.getElem?_eq_getElem hj2] at hj
    rw [List.getElem?_eq_getElem hj2]
    simpa using hj
  · intro w' hg' ho'
    rw [vn_length]
    refine h w' ?_ ho'
    have h2 := hg'.out
    rw [vn_splice] at h2
    exact h2

namespace Mu
theorem maskN (a : Nat) (ha : a < 4294967296) : bits .and .u64 (a : Int) 4294967295 = (a : Int) := by
  have h := bits_and_u64_nat a 4294967295 (by omega) (by omega)
  have e : a &&& 4294967295 = a % 4294967296 := Nat.and_two_pow_sub_one_eq_mod a 32
  rw [e, Nat.mod_eq_of_lt ha] at h
  exact h
theorem divN (a : Nat) (ha : a < 4294967296) : (a : Int) / 4294967296 = 0 := by omega
theorem wrapN (a : Nat) (ha : a < 18446744073709551616) : IntKind.u64.wrap (a : Int) = (a : Int) := by rw [IntKind.wrap_u64]; omega
end Mu

set_option maxRecDepth 100000 in
set_option maxHeartbeats 1000000 in
theorem mul64_one (y : Nat) (hy : y < 4294967296) (w : World) : Calls Try.prog 78 #[.int .u64 1, .int .u64 (y : Int)] w fun e w' => e = .returned (.tuple #[.int .u64 0, .int .u64 (y : Int)]) ∧ w = w' := by
  have h1 := Mu.maskN y hy
  have h2 := Mu.maskN 1 (by omega)
  have h0 := Mu.maskN 0 (by omega)
  have d1 := Mu.divN y hy
  have w1 := Mu.wrapN y (by omega)
  simp only [Int.natCast_zero, Int.natCast_one] at h2 h0
  go_enter Try.func78, Try.ntmps78
  go_wp2
  go_ret2
  exact ⟨rfl, rfl⟩

set_option maxHeartbeats 1000000 in
theorem mul_one_is (y : Nat) (hy : y < 4294967296) (w : World) : Calls Try.prog 69 #[.int .u64 1, .int .u64 (y : Int)] w fun e w' => e = .returned (.tuple #[.int .u64 0, .int .u64 (y : Int)]) ∧ w = w' := by
  go_enter Try.func69, Try.ntmps69
  go_wp2_with (go_at_call 78; refine (mul64_one y hy _).mono ?_; rintro e w' ⟨rfl, rfl⟩)
  go_ret2
  exact ⟨rfl, rfl⟩

/-- The first n of m numbers are q, the others 0. -/
def rp (q n m : Nat) : List Nat := List.replicate n q ++ List.replicate (m - n) 0
theorem rp_length (q n m : Nat) (h : n ≤ m) : (rp q n m).length = m := by simp [rp]; omega
theorem rp_full (q m : Nat) : rp q m m = List.replicate m q := by simp [rp]
theorem rp_get (q n m i : Nat) (hi : i < n) : (rp q n m)[i]? = some q := by
  unfold rp
  rw [List.getElem?_append_left (by simpa using hi)]
  simp [hi]
theorem vn_rep (n q : Nat) : vn (List.replicate n q) = List.replicate n (.int .i64 (q : Int)) := by simp [vn]
theorem rp_splice (q n k m : Nat) (h : n + k ≤ m) : splice (rp q n m) n (List.replicate k q) = rp q (n + k) m := by
  unfold splice rp
  rw [List.take_append_of_le_length (by simp), List.take_of_length_le (by simp), List.length_replicate, List.drop_append, List.drop_of_length_le (by simp), List.nil_append, List.length_replicate, List.drop_replicate,
    show m - n - (n + k - n) = m - (n + k) by omega, ← List.append_assoc, List.replicate_append_replicate]
theorem made_nums (m : Nat) : madeCells #[Value.int .i64 0] m = (vn (rp 0 0 m)).toArray := by
  apply Array.toList_inj.1
  rw [toList_madeCells_one]
  simp [rp, vn]
theorem rp_zero (q m : Nat) : rp q 0 m = rp 0 0 m := by simp [rp]

/-- What Repeat leaves. -/
def RepPost (w : World) (q m : Nat) (e : Ending) (w' : World) : Prop :=
  ∃ g, e = .returned (.slice (some ⟨g, 0, none⟩) m m) ∧ Has w' g (nums (List.replicate m q)) ∧ w.heap.size ≤ g ∧ Below w.heap.size w w'

set_option maxRecDepth 100000 in
set_option maxHeartbeats 4000000 in
theorem repeat_one (b cap q m : Nat) (hm0 : 0 < m) (hm : m ≤ 1000) (w : World) (hb : b < w.heap.size) (hc : w.cell? ⟨b, 0, none⟩ = some (.int .i64 (q : Int))) :
    Calls Try.prog 59 #[.slice (some ⟨b, 0, none⟩) 1 cap, .int .i64 (m : Int)] w (RepPost w q m) := by
  have hmk := run_make_row' (P := Try.prog) 36 3 (.int .i64 0) 8 Try.underlying36 Try.infoInt rfl .i64 .i64 m (by omega) (by omega)
  obtain ⟨w1, hw1⟩ : ∃ w1, w1 = w.alloc (.cells (madeCells #[Value.int .i64 0] m) 3) := ⟨_, rfl⟩
  have hg1 : Has w1 w.heap.size (nums (rp q 0 m)) := by
    rw [hw1, rp_zero, made_nums]; exact Has.new w _
  have hb1 : Below w.heap.size w w1 := by rw [hw1]; exact below1 _ _
  have hcc : w1.cell? ⟨b, 0, none⟩ = some (.int .i64 (q : Int)) := by rw [hb1.cell (p := ⟨b, 0, none⟩) hb]; exact hc
  have HG1 := Lib.hid hg1
  have HB1 := Lib.hid hb1
  have HC := Lib.hid hcc
  have wy := Mu.wrapN m (by omega)
  have d0 : decide ((9223372036854775807 : Int) < (m : Int)) = false := decide_eq_false (by omega)
  have NEXT : Hid (∀ (n : Nat) (W : World), n < m → Has W w.heap.size (nums (rp q n m)) → ∀ j, j < (List.replicate (min n (m - n)) q).length → W.cell? ⟨w.heap.size, 0 + j, none⟩ = some (.int .i64 (((List.replicate (min n (m - n)) q)[j]?.getD 0 : Nat) : Int))) := by
    intro n W hlt hW j hj
    rw [List.length_replicate] at hj
    rw [Nat.zero_add, nums_cell hW j (by rw [rp_length _ _ _ (by omega)]; omega), rp_get _ _ _ _ (by omega), List.getElem?_replicate_of_lt hj]
  have ONE : Hid (∀ j, j < (List.replicate 1 q).length → w1.cell? ⟨b, 0 + j, none⟩ = some (.int .i64 (((List.replicate 1 q)[j]?.getD 0 : Nat) : Int))) := by
    intro j hj
    rw [List.length_replicate] at hj
    obtain rfl : j = 0 := by omega
    exact hcc
  clear hg1 hb1 hcc hc
  go_enter Try.func59, Try.ntmps59
  go_wp2_with (first | (go_at_call 69; refine (mul_one_is m (by omega) _).mono ?_; rintro e w' ⟨rfl, rfl⟩) | (rw [← hw1]; with_reducible refine wpList_copy_nums rfl (.tmp 31) (.tmp 32) rfl m m 1 cap w.heap.size 0 b 0 rfl rfl (rp q 0 m) (List.replicate 1 q) HG1.out ?hn ONE.out ?hf ?_; (case hn => (rw [List.length_replicate]; exact (Nat.min_eq_left (by omega)).symm)); (case hf => (rw [rp_length _ _ _ (by omega), List.length_replicate]; omega)); intro w2 hg2 ho2))
  have HG2 : Hid (Has w2 w.heap.size (nums (rp q 1 m))) := by
    have h := hg2
    rw [rp_splice q 0 1 m (by omega)] at h
    exact h
  have HB2 := Lib.hid (ho2.below HB1.out (Nat.le_refl _) HB1.out.size)
  clear hg2 ho2 HG1 HB1 HC ONE hw1 hmk
  go_wp2_with fail
  go_loopw [8] (fun s8 wr => ∃ n : Nat, s8 = .int .i64 (n : Int) ∧ 0 < n ∧ n ≤ m ∧ Hid (Has wr w.heap.size (nums (rp q n m))) ∧ Hid (Below w.heap.size w wr)) (fun s _ => m - (intOf s).toNat)
  case atStart => exact ⟨1, by go_num, by omega, by omega, HG2, HB2⟩
  case round =>
    obtain ⟨n, rfl, hn0, hnm, KG, KB⟩ := hrel
    by_cases hlt : n < m
    · have j0 : decide ((n : Int) < (m : Int)) = true := decide_eq_true (by omega)
      obtain ⟨k, hk⟩ : ∃ k, k = min n (m - n) := ⟨_, rfl⟩
      have HN := Lib.hid (NEXT.out n wr.drew hlt KG.out)
      rw [← hk] at HN
      have ek : Hid (Value.int .i64 (IntKind.i64.wrap ((n : Int) + (k : Int))) = .int .i64 ((n + k : Nat) : Int)) := by
        show _ = _
        rw [IntWalk.i64_in _ (by omega)]; norm_cast
      have KG2 : Hid (Has wr.drew w.heap.size (nums (rp q n m))) := KG.out
      have KB2 : Hid (Below w.heap.size w wr.drew) := KB.out.drew
      have hk1 : 0 < k ∧ n + k ≤ m := by omega
      have HK : Hid ((List.replicate k q).length = Nat.min n (m - n)) := by
        show _ = _
        rw [List.length_replicate, hk]
      have hne : ¬ m = n := by omega
      clear hk
      go_wp2
      go_region_law (refine step_copy_nums rfl (.tmp 41) (.tmp 44) rfl (m - n) (m - n) n m w.heap.size n w.heap.size 0 (by simp [Act.eval, Act.put]) (by simp [Act.eval, Act.put]) (rp q n m) (List.replicate k q) w.heap.size w KB2.out (Nat.le_refl _) KG2.out HK.out HN.out (by rw [rp_length _ _ _ (by omega), List.length_replicate]; omega) ?_; intro w3 hg3 hb3; rw [rp_splice q n k m hk1.2] at hg3; have HG3 := Lib.hid hg3; have HB3 := Lib.hid hb3; clear hg3 hb3)
      rw [IntWalk.i64_in ((n : Int) + (k : Int)) (by omega)]
      go_simp
      go_roundw
      case rel => exact ⟨.int .i64 ((n : Int) + (k : Int)), _, _, _, _, _, _, _, _, _, _, _, _, _, ⟨n + k, by go_num, by omega, hk1.2, HG3, HB3⟩, rfl⟩
      case measure => simp [intOf]; omega
    · obtain rfl : n = m := by omega
      go_wp2
      go_ret
      exact ⟨_, rfl, by have := KG.out; rw [rp_full] at this; exact this, Nat.le_refl _, KB.out⟩

set_option maxRecDepth 100000 in
set_option maxHeartbeats 4000000 in
theorem repeat_none (b cap : Nat) (w : World) :
    Calls Try.prog 59 #[.slice (some ⟨b, 0, none⟩) 1 cap, .int .i64 0] w (RepPost w 1 0) := by
  have hmk : ∀ W, (Instr.makeSlice 36 (.int .i64 0) (.int .i64 0)).run Try.prog W = .ok (.slice (some ⟨W.heap.size, 0, none⟩) 0 0) (W.alloc (.cells (madeCells #[Value.int .i64 0] 0) 3)) := run_make_row' (P := Try.prog) 36 3 (.int .i64 0) 8 Try.underlying36 Try.infoInt rfl .i64 .i64 0 (by omega) (by omega)
  obtain ⟨w1, hw1⟩ : ∃ w1, w1 = w.alloc (.cells (madeCells #[Value.int .i64 0] 0) 3) := ⟨_, rfl⟩
  have hg1 : Has w1 w.heap.size (nums (rp 1 0 0)) := by
    rw [hw1, rp_zero, made_nums]; exact Has.new w _
  have hb1 : Below w.heap.size w w1 := by rw [hw1]; exact below1 _ _
  have HG1 := Lib.hid hg1
  have HB1 := Lib.hid hb1
  clear hg1 hb1
  go_enter Try.func59, Try.ntmps59
  go_wp2_with (first | (go_at_call 69; refine (mul_one_is 0 (by omega) _).mono ?_; rintro e w' ⟨rfl, rfl⟩) | (rw [← hw1]; with_reducible refine wpList_copy_nums rfl (.tmp 31) (.tmp 32) rfl 0 0 1 cap w.heap.size 0 b 0 rfl rfl (rp 1 0 0) [] HG1.out (by simp) (fun j hj => absurd hj (by simp)) (by simp) ?_; intro w2 hg2 ho2))
  have HG2 : Hid (Has w2 w.heap.size (nums (List.replicate 0 1))) := hg2
  have HB2 := Lib.hid (ho2.below HB1.out (Nat.le_refl _) HB1.out.size)
  clear hg2 ho2 HG1 HB1 hw1 hmk
  go_wp2_with fail
  go_loopw [8] (fun s8 wr => s8 = .int .i64 0 ∧ Hid (Has wr w.heap.size (nums (List.replicate 0 1))) ∧ Hid (Below w.heap.size w wr)) (fun s _ => 0 - (intOf s).toNat)
  case atStart => exact ⟨by go_num, HG2, HB2⟩
  case round =>
    obtain ⟨rfl, KG, KB⟩ := hrel
    go_wp2
    go_ret
    exact ⟨_, rfl, KG.out, Nat.le_refl _, KB.out⟩
end Go.Proofs.Ythbiibinmofmfaa
