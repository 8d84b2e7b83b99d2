/- Sectors' bytes as values: rows of 512 cells, handed on whole. -/
import Derived.Test.YthbiibinmofmfaaEstr
import Derived.Deep.MidRow
import Derived.Deep.WholeRow
import Derived.Great.FillDense
import Derived.Great.BuildSlice
import Derived.Laws.StructEq

namespace Go.Proofs.Ythbiibinmofmfaa
set_option maxRecDepth 100000
open Go.RowKit

/-- 512 bytes 0. -/
def zrow : List Nat := List.replicate 512 0
/-- A sector's bytes. -/
def Row (r : List Nat) : Prop := r.length = 512 ∧ ∀ x ∈ r, x < 256
theorem zrow_length : zrow.length = 512 := List.length_replicate
theorem zrow_row : Row zrow := ⟨zrow_length, fun x hx => by rw [List.eq_of_mem_replicate hx]; omega⟩
theorem Row.vb {r : List Nat} (h : Row r) : (vb r).length = 512 := by rw [vb_length, h.1]
/-- The cells of a write. -/
def vw (a : Nat) (r : List Nat) : List Value := .int .i64 (a : Int) :: vb r
theorem vw_length (a : Nat) (r : List Nat) (h : r.length = 512) : (vw a r).length = 513 := by simp [vw, vb_length, h]
theorem oneCell_vw (a : Nat) (r : List Nat) : ∀ v ∈ vw a r, v.oneCell' = true := by
  intro v hv
  simp only [vw, List.mem_cons] at hv
  rcases hv with rfl | hv
  · rfl
  · exact oneCell_vb r v hv
theorem vb_cells1 (r : List Nat) : ∀ v ∈ vb r, v.cells = #[v] := by
  intro v hv
  simp only [vb, List.mem_map] at hv
  obtain ⟨x, _, rfl⟩ := hv
  rfl

theorem Try.infoRow : (Try.prog.info? 93).map (fun i => (i.zero, i.size, i.bytes)) = some (some (.agg (vb zrow).toArray), 512, 512) := by kernel_rfl
theorem Try.infoWrite : (Try.prog.info? 116).map (fun i => (i.zero, i.size, i.bytes)) = some (some (.agg (vw 0 zrow).toArray), 513, 520) := by kernel_rfl

theorem zero_of_parts {P : Program} {t : TypeId} {z : Value} {s b : Nat} (h : (P.info? t).map (fun i => (i.zero, i.size, i.bytes)) = some (some z, s, b)) : (∀ w, (zeroValue t).run P w = .ok z w) ∧ (P.info? t).map (·.size) = some s := by
  cases hq : P.info? t with
  | none => simp [hq] at h
  | some i =>
    simp [hq] at h
    exact ⟨fun w => by simp [zeroValue, typeInfo, hq, h.1], by simp [h.2.1]⟩

theorem row_zero (w : World) : (zeroValue 93).run Try.prog w = .ok (.agg (vb zrow).toArray) w := (zero_of_parts Try.infoRow).1 w
theorem row_size : (Try.prog.info? 93).map (·.size) = some 512 := (zero_of_parts Try.infoRow).2
theorem write_zero (w : World) : (zeroValue 116).run Try.prog w = .ok (.agg (vw 0 zrow).toArray) w := (zero_of_parts Try.infoWrite).1 w
theorem write_size : (Try.prog.info? 116).map (·.size) = some 513 := (zero_of_parts Try.infoWrite).2

/-- A variable is made, its cells the zero value's. -/
theorem wpList_alloc_zero {P : Program} {w : World} {ops : Array Oper} {rest : List Oper} {o : Oper} {a : Act} {Q : Exit → Act → World → Prop} (hgd : o.guard = none) (ty : TypeId) (hop : o.op = .alloc ty) (z : Array Value)
    (hz : ∀ w, (zeroValue ty).run P w = .ok (.agg z) w) (h : wpList P ops Q rest (a.put o.dst (.pointer (some ⟨w.heap.size, 0, none⟩))) (w.alloc (.cells z ty))) : wpList P ops Q (o :: rest) a w :=
  wpList_plain hgd fun K hK => by
    unfold Oper.wp execOp
    simp only [hop, Instr.alloc, newVar, newRow, Sem.run_bind, hz, Result.andThen_ok, Value.cells]
    simp only [run_newObj, Sem.run_pure, Result.andThen_ok]
    exact hK _ _ h

theorem run_alloc_zero {P : Program} (w : World) (ty : TypeId) (z : Array Value) (old : Value) (hz : ∀ w, (zeroValue ty).run P w = .ok (.agg z) w) :
    (Instr.alloc ty true old).run P w = .ok (.pointer (some ⟨w.heap.size, 0, none⟩)) (w.alloc (.cells z ty)) := by
  cases old <;> simp [Instr.alloc, newVar, newRow, Sem.run_bind, hz, Result.andThen_ok, Value.cells]

/-- A write, put together. -/
theorem fill_any (a : Int) (z rs : List Value) (hz : z.length = 512) (hr : rs.length = 512) : Instr.fill (fun i => ([(0, 1), (1, 512)] : List (Nat × Nat))[i]?) (Value.int .i64 0 :: z).toArray [(0, .int .i64 a), (1, .agg rs.toArray)] = some (Value.int .i64 a :: rs).toArray := by
  have hza : (Value.int IntKind.i64 a :: z).toArray.size = 513 := by simp [hz]
  have hzb : (Value.int IntKind.i64 0 :: z).toArray.size = 513 := by simp [hz]
  have e0 : (Array.zipIdx #[Value.int IntKind.i64 a]).foldl (fun cs (x : Value × Nat) => cs.setIfInBounds (0 + x.2) x.1) (Value.int IntKind.i64 0 :: z).toArray = (Value.int IntKind.i64 a :: z).toArray := by
    simp
  have c1 : (Value.int IntKind.i64 a).cells = #[Value.int IntKind.i64 a] := rfl
  have c2 : (Value.agg rs.toArray).cells = rs.toArray := rfl
  unfold Instr.fill
  simp only [List.getElem?_cons_zero]
  rw [c1, hzb, if_neg (by simp)]
  unfold Instr.fill
  simp only [List.getElem?_cons_succ, List.getElem?_cons_zero]
  rw [e0, c2, hza, if_neg (by simp [hr])]
  unfold Instr.fill
  congr 1
  rw [← Array.foldl_toList, Array.toList_zipIdx]
  obtain ⟨h2, h3⟩ := Great.foldl_set 1 rs 0 (Value.int IntKind.i64 a :: z).toArray
  apply Array.ext_getElem?
  intro k
  refine (h3 k).trans ?_
  by_cases hk : 1 ≤ k ∧ k < 513
  · rw [if_pos ⟨by omega, by rw [hr]; omega, by rw [hza]; omega⟩]
    obtain ⟨j, rfl⟩ : ∃ j, k = j + 1 := ⟨k - 1, by omega⟩
    simp
  · rw [if_neg (by rw [hr, hza]; omega)]
    rcases Nat.eq_zero_or_pos k with rfl | h
    · simp
    · rw [Array.getElem?_eq_none (by rw [hza]; omega), Array.getElem?_eq_none (by simp [hr]; omega)]
/-- The same, as the walk's simp leaves it. -/
theorem fold_write (i : Nat) (r : List Nat) (hr : r.length = 512) (Z : Array Value) (hZ : Z = (vw 0 zrow).toArray) : List.foldl (fun (cs : Array Value) (x : Value × Nat) => cs.setIfInBounds (1 + x.snd) x.fst) (Z.setIfInBounds 0 (Value.int .i64 (i : Int))) (vb r).zipIdx = (vw i r).toArray := by
  subst hZ
  have e : (vw 0 zrow).toArray.setIfInBounds 0 (Value.int .i64 (i : Int)) = (Value.int .i64 (i : Int) :: vb zrow).toArray := by simp [vw]
  rw [e]
  obtain ⟨h2, h3⟩ := Great.foldl_set 1 (vb r) 0 (Value.int IntKind.i64 (i : Int) :: vb zrow).toArray
  have hr' : (vb r).length = 512 := by rw [vb_length, hr]
  have hza : (Value.int IntKind.i64 (i : Int) :: vb zrow).toArray.size = 513 := by simp [vb_length, zrow_length]
  apply Array.ext_getElem?
  intro k
  refine (h3 k).trans ?_
  by_cases hk : 1 ≤ k ∧ k < 513
  · rw [if_pos ⟨by omega, by rw [hr']; omega, by rw [hza]; omega⟩]
    obtain ⟨j, rfl⟩ : ∃ j, k = j + 1 := ⟨k - 1, by omega⟩
    simp [vw]
  · rw [if_neg (by rw [hr', hza]; omega)]
    rcases Nat.eq_zero_or_pos k with rfl | h
    · simp [vw]
    · rw [Array.getElem?_eq_none (by rw [hza]; omega), Array.getElem?_eq_none (by simp [vw, hr']; omega)]
theorem fill_write (a : Nat) (r : List Nat) (hr : r.length = 512) : Instr.fill (fun i => ([(0, 1), (1, 512)] : List (Nat × Nat))[i]?) (vw 0 zrow).toArray [(0, .int .i64 (a : Int)), (1, .agg (vb r).toArray)] = some (vw a r).toArray :=
  fill_any a (vb zrow) (vb r) (by rw [vb_length, zrow_length]) (by rw [vb_length, hr])

theorem run_build_write (w : World) (a : Nat) (r : List Nat) (hr : r.length = 512) : (Instr.build 116 #[(0, .int .i64 (a : Int)), (1, .agg (vb r).toArray)]).run Try.prog w = .ok (.agg (vw a r).toArray) w := by
  have hu := Try.underlying116
  have hz := write_zero w
  simp only [Instr.build, Sem.run_bind, hz, run_underlying hu, Result.andThen_ok]
  have hf := fill_write a r hr
  simp only [Value.cells]
  simp [Sem.run_bind, Result.andThen_ok, Try.sizeOf3, Try.sizeOf93, hf]

/-- The zero row, put together. -/
theorem run_build_zero (w : World) : (Instr.build 93 #[]).run Try.prog w = .ok (.agg (vb zrow).toArray) w := by
  have hu := Try.underlying93
  simp [Instr.build, Sem.run_bind, row_zero w, run_underlying hu, Result.andThen_ok, Value.cells, Instr.fill, Try.sizeOf5]

/-- A slice of one write. -/
theorem run_one_write (w : World) (cs : List Value) (hc : cs.length = 513) : (Instr.buildSlice 60 1 #[(0, .agg cs.toArray)]).run Try.prog w = .ok (.slice (some ⟨w.heap.size, 0, none⟩) 1 1) (w.alloc (.cells cs.toArray 116)) := by
  cases hq : Try.prog.info? 116 with
  | none => have := Try.infoWrite; simp [hq] at this
  | some i =>
    have hi := Try.infoWrite
    simp only [hq, Option.map_some, Option.some.injEq, Prod.mk.injEq] at hi
    obtain ⟨h1, h2, h3⟩ := hi
    refine run_buildSlice w _ _ 1 _ cs.toArray i _ Try.underlying60 hq h1 (by rw [h2]; decide) (by rw [h2]; decide) ?_
    have hf := Great.fill_whole (s := 513) (by omega) [.agg cs.toArray] ((Array.range 513).map ((Value.agg (vw 0 zrow).toArray).cells[· % (Value.agg (vw 0 zrow).toArray).cells.size]!)) (fun v hv => by simp at hv; subst hv; simp [Value.cells, hc]) (by simp)
    rw [h2]
    simpa [Value.cells] using hf

/-- Are two rows the same? -/
theorem vb_inj {a b : List Nat} (h : vb a = vb b) : a = b := by
  induction a generalizing b with
  | nil => cases b with
    | nil => rfl
    | cons y b => simp [vb] at h
  | cons x a ih => cases b with
    | nil => simp [vb] at h
    | cons y b =>
      simp only [vb, List.map_cons, List.cons.injEq] at h
      obtain ⟨h1, h2⟩ := h
      rw [ih h2]
      congr 1
      simp only [Value.int.injEq, true_and] at h1
      omega

theorem eq_loop (d : Nat) (w : World) (r s : List Nat) (N : Nat) (hr : r.length = N) (hs : s.length = N) : ∀ n k, k + n = N →
    (forIn (List.range' k n) ((none : Option Bool), ()) fun i _ => do
      let x ← part 5 (vb r).toArray (i * 1)
      let y ← part 5 (vb s).toArray (i * 1)
      let b ← Op.equalIn (d + 1) 5 x y
      if (!b) = true then pure (ForInStep.done (some false, ())) else pure (ForInStep.yield ((none : Option Bool), ()))).run Try.prog w = .ok ((if r.drop k = s.drop k then none else some false), ()) w := by
  intro n
  induction n with
  | zero =>
    intro k hk
    simp only [List.range'_zero, List.forIn_nil]
    rw [if_pos (by rw [List.drop_eq_nil_of_le (by omega), List.drop_eq_nil_of_le (by omega)])]
    rfl
  | succ n ih =>
    intro k hk
    have h1 : (vb r).toArray[k]? = some (.int .u8 ((r[k]?.getD 0 : Nat) : Int)) := by
      rw [List.getElem?_toArray, vb_get, List.getElem?_eq_getElem (by omega)]; simp
    have h2 : (vb s).toArray[k]? = some (.int .u8 ((s[k]?.getD 0 : Nat) : Int)) := by
      rw [List.getElem?_toArray, vb_get, List.getElem?_eq_getElem (by omega)]; simp
    have p1 : (part 5 (vb r).toArray (k * 1)).run Try.prog w = .ok (.int .u8 ((r[k]?.getD 0 : Nat) : Int)) w := by
      simp only [part, Sem.run_bind, Try.isAgg5, Result.andThen_ok, Nat.mul_one, h1]; rfl
    have p2 : (part 5 (vb s).toArray (k * 1)).run Try.prog w = .ok (.int .u8 ((s[k]?.getD 0 : Nat) : Int)) w := by
      simp only [part, Sem.run_bind, Try.isAgg5, Result.andThen_ok, Nat.mul_one, h2]; rfl
    have p3 := run_equalIn_int (P := Try.prog) w d 5 .u8 .u8 ((r[k]?.getD 0 : Nat) : Int) ((s[k]?.getD 0 : Nat) : Int) Try.underlying5
    rw [List.range'_succ, List.forIn_cons]
    simp only [Sem.run_bind, p1, p2, p3, Result.andThen_ok]
    have e1 : r.drop k = r[k]?.getD 0 :: r.drop (k + 1) := by rw [List.drop_eq_getElem_cons (by omega), List.getElem?_eq_getElem (by omega)]; rfl
    have e2 : s.drop k = s[k]?.getD 0 :: s.drop (k + 1) := by rw [List.drop_eq_getElem_cons (by omega), List.getElem?_eq_getElem (by omega)]; rfl
    by_cases hc : r[k]?.getD 0 = s[k]?.getD 0
    · have hb : (((r[k]?.getD 0 : Nat) : Int) == ((s[k]?.getD 0 : Nat) : Int)) = true := by rw [hc]; simp
      simp only [hb, Bool.not_true, Bool.false_eq_true, if_false, Sem.run_pure, Result.andThen_ok]
      rw [ih (k + 1) (by omega), e1, e2, hc]
      simp
    · have hb : (((r[k]?.getD 0 : Nat) : Int) == ((s[k]?.getD 0 : Nat) : Int)) = false := by simp; omega
      simp only [hb, Bool.not_false, if_true, Sem.run_pure, Result.andThen_ok]
      rw [if_neg (by rw [e1, e2]; intro h; simp only [List.cons.injEq] at h; exact hc h.1)]

theorem run_eq_array (w : World) (t : TypeId) (N : Nat) (ht : Try.prog.underlying t = some (.array N 5)) (d : Nat) (r s : List Nat) (hr : r.length = N) (hs : s.length = N) :
    (Op.equalIn (d + 2) t (.agg (vb r).toArray) (.agg (vb s).toArray)).run Try.prog w = .ok (decide (r = s)) w := by
  have h := eq_loop d w r s N hr hs N 0 (by omega)
  obtain ⟨d2, hd2⟩ : ∃ d2, d2 = d + 1 := ⟨_, rfl⟩
  rw [← hd2] at h
  rw [show d + 2 = d2 + 1 by omega]
  clear hd2
  simp only [Op.equalIn, Sem.run_bind, run_underlying ht, Result.andThen_ok, Try.sizeOf5, Std.Legacy.Range.forIn_eq_forIn_range', Std.Legacy.Range.size]
  have e : (N - 0 + 1 - 1) / 1 = N := by simp
  rw [e, h]
  simp only [Result.andThen_ok, List.drop_zero]
  by_cases hc : r = s
  · subst hc; simp
  · rw [if_neg hc]; simp [hc]

theorem run_row_eq (w : World) (r s : List Nat) (hr : r.length = 512) (hs : s.length = 512) : (binOp .eql 93 (.agg (vb r).toArray) (.agg (vb s).toArray)).run Try.prog w = .ok (.bool (decide (r = s))) w := by
  rw [run_eql_struct, run_eq_array w _ 512 Try.underlying93 9998 r s hr hs]
  simp only [Result.andThen_ok]
end Go.Proofs.Ythbiibinmofmfaa
