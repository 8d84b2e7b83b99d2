/- Strings as rows of bytes; append of a string onto the call's own bytes; []byte of a string. -/
import Derived.Test.YtillckjohlbaiaaFown
import Derived.Deep.AppendSrc
import Derived.Lib.ConvBytes

namespace Go.Proofs.Ytillckjohlbaiaa
set_option maxRecDepth 100000
open Go.RowKit

theorem strB_data (bs : List Nat) : (strB bs).data.toList = bs.map UInt8.ofNat := by
  unfold strB
  rw [strOfNums_data, List.map_map]
  congr 1
theorem strB_list (bs : List Nat) : (strB bs).toList = bs.map UInt8.ofNat := by
  rw [ByteArray.toList_eq]
  exact strB_data bs
theorem strB_size (bs : List Nat) : (strB bs).size = bs.length := by
  unfold strB
  rw [strOfNums_size, List.length_map]
theorem ba_ext {A B : ByteArray} (h : A.data.toList = B.data.toList) : A = B := ByteArray.ext (Array.ext' h)
theorem strB_append (bs cs : List Nat) : strB (bs ++ cs) = strB bs ++ strB cs := by
  apply ba_ext
  rw [strB_data, ByteArray.data_append, Array.toList_append, strB_data, strB_data, List.map_append]
theorem strB_nil : strB [] = ⟨#[]⟩ := rfl

/-- A string's bytes. -/
def sB (S : ByteArray) : List Nat := S.data.toList.map UInt8.toNat
theorem sB_byte (S : ByteArray) : ∀ x ∈ sB S, x < 256 := by
  intro x hx
  simp only [sB, List.mem_map] at hx
  obtain ⟨u, _, rfl⟩ := hx
  exact u.toNat_lt
theorem sB_length (S : ByteArray) : (sB S).length = S.size := by
  unfold sB
  rw [List.length_map, Array.length_toList]
  rfl
theorem strB_sB (S : ByteArray) : strB (sB S) = S := by
  apply ba_ext
  rw [strB_data]
  unfold sB
  rw [List.map_map]
  conv => rhs; rw [← List.map_id S.data.toList]
  apply List.map_congr_left
  intro x _
  exact UInt8.ofNat_toNat
theorem sB_strB {bs : List Nat} (h : ∀ x ∈ bs, x < 256) : sB (strB bs) = bs := by
  unfold sB
  rw [strB_data, List.map_map]
  conv => rhs; rw [← List.map_id bs]
  apply List.map_congr_left
  intro x hx
  have := h x hx
  simp
  omega
theorem byteCells_sB (S : ByteArray) : byteCells S = vb (sB S) := by
  unfold byteCells vb sB
  rw [List.map_map]
  rfl
theorem strB_inj {bs cs : List Nat} (hb : ∀ x ∈ bs, x < 256) (hc : ∀ x ∈ cs, x < 256) (h : strB bs = strB cs) : bs = cs := by
  rw [← sB_strB hb, h, sB_strB hc]

theorem run_append_str {P : Program} {w : World} (base : Nat) (t u ty e : TypeId) (i : TypeInfo) (h1 : P.underlying t = some (.slice e)) (hu : P.underlying u = some .string) (h2 : P.info? e = some i) (h3 : i.zero = some (.int .u8 0)) (h4 : i.size = 1) (h5 : i.bytes = 1)
    (g0 cap0 n : Nat) (xs : List Value) (hown : w.ownsRow base e 1 (.slice (some ⟨g0, 0, none⟩) n cap0) n xs) (S : ByteArray) (b1 : n + S.size ≤ 140737488355328) (hbase : base ≤ w.heap.size) :
    ∃ g cap w', (Builtin.append_ #[t, u] ty #[.slice (some ⟨g0, 0, none⟩) n cap0, .string S]).run P w = .ok (.slice (some ⟨g, 0, none⟩) (n + S.size) cap) w' ∧ w'.ownsRow base e 1 (.slice (some ⟨g, 0, none⟩) (n + S.size) cap) (n + S.size) (xs ++ vb (sB S)) ∧ w.grownBy w' (some g0) := by
  have hsz : (vb (sB S)).length = S.size := by rw [vb_length, sB_length]
  have hlen : (xs ++ vb (sB S)).length = (n + S.size) * 1 := by rw [List.length_append, hown.1, hsz]; omega
  have h1c := oneCell_vb (sB S)
  have hfs : ∀ w' : World, (Builtin.firstCells 1 S.size (.string S)).run P w' = .ok (vb (sB S)).toArray w' := fun w' => by rw [← byteCells_sB]; exact firstCells_string S w'
  rcases hown.2 with ⟨he, _⟩ | ⟨g, cap, cur, he, hbg, hg, hnc, hcm, hcs, htake⟩
  · cases he
  · injection he with e1 e2 e3
    injection e1 with e1
    injection e1 with e1
    subst e1 e3
    by_cases hroom : n + S.size ≤ cap0
    · have hst := run_storeCells_at P g0 (n * i.size) e (vb (sB S)) 0 cur w hg (by rw [hsz, h4]; omega) h1c
      simp only [Nat.add_zero] at hst
      refine ⟨g0, cap0, w.setRow g0 (cur.toList.take (n * i.size) ++ vb (sB S) ++ cur.toList.drop (n * i.size + (vb (sB S)).length)).toArray, ?_, ⟨hlen, .inr ⟨g0, cap0, _, rfl, hbg, setRow_heap w g0 cur _ e _ hg, hroom, hcm, ?_, ?_⟩⟩, ⟨rfl, rfl, rfl, by simp, fun k _ hk => setRow_other w g0 k _ (fun e => hk (by rw [e]))⟩⟩
      · simp [Builtin.append_, run_underlying h1, run_underlying hu, sizeOf, typeInfo, h2, h4, Builtin.lenOf, hroom, hfs, Addr.add_lit] at hst ⊢
        simp [hst]
      · simp only [List.size_toArray, List.length_append, List.length_take, List.length_drop, Array.length_toList, h4]
        omega
      · rw [h4, htake, ← hlen]
        exact List.take_left
    · have holds : ∀ j u, xs[j]? = some u → w.cell? ((⟨g0, 0, none⟩ : Addr).add j) = some u := hown.cells (g := g0) rfl
      have hfo := run_firstCells_some (P := P) w.drew 1 n ⟨g0, 0, none⟩ n cap0 xs hown.1 (by simpa using holds)
      have hr := run_append_grow_src (P := P) w t u ty e i (.int .u8 0) h1 h2 h3 (some ⟨g0, 0, none⟩) n cap0 xs (by rw [h4]; exact hfo) (.string S) S.size (vb (sB S)) (by rw [h4, ← byteCells_sB]; exact Src.ofString w hu S) (by omega) (by omega) (growslice_fits (by omega) (by rw [h5]; omega))
      refine ⟨w.heap.size, _, _, hr, ⟨hlen, .inr ⟨w.heap.size, _, _, rfl, hbase, Go.heap_alloc_new w.drew _, grownCap_ge w (n + S.size) cap0 e, grownCap_le_maxLen w (n + S.size) cap0 e (by unfold maxLen; omega), ?_, ?_⟩⟩, ⟨rfl, rfl, rfl, by simp, fun k hk _ => Go.heap_alloc_old w.drew _ hk⟩⟩
      · have hge := grownCap_ge w (n + S.size) cap0 e
        have hx := hown.1
        have hc1 : (Value.int IntKind.u8 0).cells.size = 1 := rfl
        rw [Array.size_append, List.size_toArray, List.length_append, size_zeroCells, hsz, hx, hc1]
        omega
      · simp only [Array.toList_append, List.append_assoc]
        rw [← List.append_assoc, ← hlen]
        exact List.take_left

/-- append(b, s...) as a step of a region that goes in one order. -/
theorem wpList_append_str {ops : Array Oper} {rest : List Oper} {o : Oper} {a : Act} {w : World} {Q : Exit → Act → World → Prop} (hgd : o.guard = none) (s x : Operand)
    (ho : o.op = .call { callee := .builtin .append, args := #[s, x], argTypes := #[22, 9] })
    (base g0 cap0 n : Nat) (xs : List Value) (hs : a.eval s = .slice (some ⟨g0, 0, none⟩) n cap0) (hown : w.ownsRow base 5 1 (.slice (some ⟨g0, 0, none⟩) n cap0) n xs)
    (S : ByteArray) (hx : a.eval x = .string S) (hm : n + S.size ≤ 140737488355328) (hbase : base ≤ w.heap.size)
    (h : ∀ g cap w', Hid (w'.ownsRow base 5 1 (.slice (some ⟨g, 0, none⟩) (n + S.size) cap) (n + S.size) (xs ++ vb (sB S))) → Hid (w.grownBy w' (some g0)) → wpList Try.prog ops Q rest (a.put o.dst (.slice (some ⟨g, 0, none⟩) (n + S.size) cap)) w') :
    wpList Try.prog ops Q (o :: rest) a w := by
  obtain ⟨i0, hi, hz0, hz1, hz2⟩ := info_parts Try.infoU8
  obtain ⟨g, cap, w', hrun, r1, r2⟩ := run_append_str (P := Try.prog) (w := w) base 22 9 o.type 5 i0 Try.underlying22 Try.underlying9 hi hz0 hz1 hz2 g0 cap0 n xs hown S hm hbase
  refine wpList_plain hgd fun K hK => ?_
  unfold Oper.wp execOp
  simp only [ho, resolve, invoke, builtin, Sem.run_bind, Sem.run_pure, Result.andThen_ok, List.map_toArray, List.map_cons, List.map_nil, hs, hx, hrun]
  exact hK _ _ (h g cap w' r1 r2)
end Go.Proofs.Ytillckjohlbaiaa
