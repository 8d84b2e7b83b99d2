/- The document's middle, Local, Central, End. -/
import Derived.Test.YtillckjohlbaiaaNref1
import Derived.Test.YtillckjohlbaiaaNend
import Derived.Deep.RegionHeld3

namespace Go.Proofs.Ytillckjohlbaiaa
set_option maxRecDepth 100000
open Go.RowKit

/-- The six cells of a record's box, in a world that has grown from w. -/
def B6 (w : World) (g : Nat) (S : ByteArray) (m a b c d : Int) (W : World) : Prop :=
  W.cell? ⟨g, 0, none⟩ = some (.string S) ∧ W.cell? ⟨g, 1, none⟩ = some (.int .i64 m) ∧ W.cell? ⟨g, 2, none⟩ = some (.int .i64 a) ∧ W.cell? ⟨g, 3, none⟩ = some (.int .i64 b) ∧ W.cell? ⟨g, 4, none⟩ = some (.int .i64 c) ∧ W.cell? ⟨g, 5, none⟩ = some (.int .i64 d) ∧ Below w.heap.size w W ∧ g < W.heap.size
theorem B6.later {w : World} {g : Nat} {S : ByteArray} {m a b c d : Int} {W W' : World} (h : B6 w g S m a b c d W) (hb : Below W.heap.size W W') : B6 w g S m a b c d W' := by
  obtain ⟨h0, h1, h2, h3, h4, h5, h6, h7⟩ := h
  exact ⟨(hb.cell (p := ⟨g, 0, none⟩) h7).trans h0, (hb.cell (p := ⟨g, 1, none⟩) h7).trans h1, (hb.cell (p := ⟨g, 2, none⟩) h7).trans h2, (hb.cell (p := ⟨g, 3, none⟩) h7).trans h3, (hb.cell (p := ⟨g, 4, none⟩) h7).trans h4, (hb.cell (p := ⟨g, 5, none⟩) h7).trans h5, h6.trans (hb.mono h6.size), Nat.lt_of_lt_of_le h7 hb.size⟩
theorem B6.box (w : World) (S : ByteArray) (m a b c d : Int) : B6 w w.heap.size S m a b c d (w.alloc (.cells #[.string S, .int .i64 m, .int .i64 a, .int .i64 b, .int .i64 c, .int .i64 d] 25)) := by
  have h := Has.new w (.cells #[.string S, .int .i64 m, .int .i64 a, .int .i64 b, .int .i64 c, .int .i64 d] 25)
  exact ⟨h.cell 0, h.cell 1, h.cell 2, h.cell 3, h.cell 4, h.cell 5, below1 w _, h.lt⟩

theorem keep6 {w : World} {S : ByteArray} {m a b c d : Int} {W W' : World} (h : W.cell? ⟨w.heap.size, 0, none⟩ = some (.string S) ∧ W.cell? ⟨w.heap.size, 1, none⟩ = some (.int .i64 m) ∧ W.cell? ⟨w.heap.size, 2, none⟩ = some (.int .i64 a) ∧ W.cell? ⟨w.heap.size, 3, none⟩ = some (.int .i64 b) ∧ W.cell? ⟨w.heap.size, 4, none⟩ = some (.int .i64 c) ∧ W.cell? ⟨w.heap.size, 5, none⟩ = some (.int .i64 d) ∧ Below w.heap.size w W ∧ w.heap.size < W.heap.size) (hb : Below W.heap.size W W') :
    W'.cell? ⟨w.heap.size, 0, none⟩ = some (.string S) ∧ W'.cell? ⟨w.heap.size, 1, none⟩ = some (.int .i64 m) ∧ W'.cell? ⟨w.heap.size, 2, none⟩ = some (.int .i64 a) ∧ W'.cell? ⟨w.heap.size, 3, none⟩ = some (.int .i64 b) ∧ W'.cell? ⟨w.heap.size, 4, none⟩ = some (.int .i64 c) ∧ W'.cell? ⟨w.heap.size, 5, none⟩ = some (.int .i64 d) ∧ Below w.heap.size w W' ∧ w.heap.size < W'.heap.size := B6.later h hb

/-- What both headers have in their midst. -/
def mid (S : ByteArray) (m a b c : Int) : List Nat := Fd.le 2 20 ++ Fd.le 2 0 ++ Fd.le 2 m.toNat ++ Fd.le 2 0 ++ Fd.le 2 33 ++ Fd.le 4 a.toNat ++ Fd.le 4 b.toNat ++ Fd.le 4 c.toNat ++ Fd.le 2 S.size

theorem mid_size (S : ByteArray) (m a b c : Int) : (mid S m a b c).length = 24 := by
  simp only [mid, List.length_append, Fd.le_length]

theorem local_is (S : ByteArray) (m a b c d : Int) : localB S m a b c d = [80, 75, 3, 4] ++ mid S m a b c ++ Fd.le 2 0 ++ sB S := by
  unfold localB laid mid bothL
  simp only [List.map_cons, List.map_nil, List.flatten_cons, List.flatten_nil, List.append_nil, List.append_assoc]
  rfl
theorem central_is (S : ByteArray) (m a b c d : Int) : centralB S m a b c d = [80, 75, 1, 2] ++ Fd.le 2 20 ++ mid S m a b c ++ Fd.le 2 0 ++ Fd.le 2 0 ++ Fd.le 2 0 ++ Fd.le 2 0 ++ Fd.le 4 (if endsB S = true then 16 else 0) ++ Fd.le 4 d.toNat ++ sB S := by
  unfold centralB laid mid centralL bothL
  simp only [List.map_cons, List.map_nil, List.flatten_cons, List.flatten_nil, List.append_nil, List.append_assoc, List.cons_append, List.nil_append]
  rfl
theorem end_is (c s a : Int) : endB c s a = [80, 75, 5, 6] ++ Fd.le 2 0 ++ Fd.le 2 0 ++ Fd.le 2 c.toNat ++ Fd.le 2 c.toNat ++ Fd.le 4 s.toNat ++ Fd.le 4 a.toNat ++ Fd.le 2 0 := by
  unfold endB laid endL
  simp only [List.map_cons, List.map_nil, List.flatten_cons, List.flatten_nil, List.append_nil, List.append_assoc]
  rfl

theorem ends_is (S : ByteArray) (h1 : 1 ≤ S.size) (h : S.size - 1 < S.size) : ((((S[S.size - 1]'h).toNat : Nat) : Int) == 47) = endsB S := by
  unfold endsB
  have e : (S.extract (S.size - 1) S.size).toList = [S[S.size - 1]'h] := by
    rw [ByteArray.toList_eq]
    simp only [ByteArray.data_extract]
    have hl : S.data.toList.length = S.size := Array.length_toList
    have hd : S.data.toList.drop (S.size - 1) = [S[S.size - 1]'h] := by
      rw [List.drop_eq_getElem_cons (by omega), List.drop_eq_nil_of_le (by omega)]
      rfl
    rw [← hd, Array.toList_extract, List.extract_eq_take_drop, List.take_of_length_le (by rw [List.length_drop]; omega)]
  rw [e]
  rw [Bool.eq_iff_iff, beq_iff_eq, beq_iff_eq]
  constructor
  · intro h0
    congr 1
    apply UInt8.toNat_inj.1
    show _ = 47
    omega
  · intro h0
    injection h0 with h0
    rw [h0]
    rfl

end Go.Proofs.Ytillckjohlbaiaa
