/- Contracts of the document's Same, and of what the statements themselves call. -/
import Derived.Test.YtcehdngdkfoioaaRput
namespace Go.Proofs.Ytcehdngdkfoioaa
open Go.RowKit

/-- A row of bytes as a string. -/
def strB (bs : List Nat) : ByteArray := strOfNums (bs.map fun (x : Nat) => (x : Int))

/-- string(b), whatever the slice. -/
theorem run_string {P : Program} (w : World) (src dst e : TypeId) (hs : P.underlying src = some (.slice e)) (he : P.underlying e = some (.int .u8)) (hd : P.underlying dst = some .string) (a : Option Addr) (len cap : Nat) (bs : List Nat) (h : Sl w (.slice a len cap) bs) :
    (convert src dst (.slice a len cap)).run P w = .ok (.string (strB bs)) w := by
  obtain ⟨a', len', cap', he', h1, h2, h3, h4, h5⟩ := h
  injection he' with e1 e2 e3
  subst e1 e2 e3
  by_cases h0 : 0 < len
  · obtain ⟨b, off, rfl, hlt, hc⟩ := h5 h0
    refine run_convert_bytes_arg w src e hs he b off len cap (bs.map fun (x : Nat) => (x : Int)) (by rw [List.length_map, h1]) (fun i hi => ?_) dst hd
    rw [hc i hi]
    simp [List.getD, List.getElem?_eq_getElem (show i < bs.length by omega)]
  · obtain rfl : len = 0 := by omega
    obtain rfl : bs = [] := List.eq_nil_of_length_eq_zero h1.symm
    cases a with
    | none => exact run_convert_bytes_nil w src e hs he 0 cap dst hd
    | some p =>
      have hl : (loadCells p 0).run P w = .ok (([] : List Int).map (Value.int .u8)).toArray w := by
        have := run_loadCells_list (P := P) w p [] (fun j v hj => by simp at hj)
        simpa using this
      rw [run_convert_bytes_string w src dst e _ 0 cap hs he hd, run_bytesToString w p 0 cap [] hl]
      rfl

set_option maxHeartbeats 1000000 in
theorem same_walk (a1 a2 : Option Addr) (n1 c1 n2 c2 : Nat) (N : Int) (bs : List Nat) (w : World) (h1 : Sl w (.slice a1 n1 c1) bs) (h2 : Sl w (.slice a2 n2 c2) bs) :
    Calls Try.prog 14 #[.agg #[.slice a1 n1 c1, .int .i64 N], .agg #[.slice a2 n2 c2, .int .i64 N]] w fun e w' => e = .returned (.bool true) ∧ Below w.heap.size w w' := by
  have hb := below2 w (.cells #[.slice a1 n1 c1, .int .i64 N] 24) (.cells #[.slice a2 n2 c2, .int .i64 N] 24)
  have r1 := run_string (P := Try.prog) _ 22 9 5 Try.underlying22 Try.underlying5 Try.underlying9 a1 n1 c1 bs (h1.later hb)
  have r2 := run_string (P := Try.prog) _ 22 9 5 Try.underlying22 Try.underlying5 Try.underlying9 a2 n2 c2 bs (h2.later hb)
  have HB := Lib.hid hb
  obtain ⟨S, hS⟩ : ∃ S, S = strB bs := ⟨_, rfl⟩
  rw [← hS] at r1 r2
  clear h1 h2 hb hS
  go_enter Try.func14, Try.ntmps14
  go_wp2
  go_ret
  exact ⟨rfl, HB.out⟩

theorem same_is (s1 s2 : Value) (N1 N2 : Int) (bs : List Nat) (w : World) (h1 : Sl w s1 bs) (h2 : Sl w s2 bs) (hN : Hid (N1 = N2)) :
    Calls Try.prog 14 #[.agg #[s1, .int .i64 N1], .agg #[s2, .int .i64 N2]] w fun e w' => e = .returned (.bool true) ∧ Below w.heap.size w w' := by
  rw [hN.out]
  obtain ⟨a1, n1, c1, rfl, _⟩ := h1.shape
  obtain ⟨a2, n2, c2, rfl, _⟩ := h2.shape
  exact same_walk a1 a2 n1 c1 n2 c2 N2 bs w h1 h2

theorem Sl.has {w : World} {g : Nat} {bs : List Nat} (h : Has w g (bytesObj bs)) (h8 : ∀ x ∈ bs, x < 256) (hl : bs.length ≤ 281474976710656) (m cap : Nat) (hm : m = bs.length) : Sl w (.slice (some ⟨g, 0, none⟩) m cap) bs := by
  refine ⟨_, m, cap, rfl, hm, by omega, fun h => by simp at h, h8, fun h0 => ⟨g, 0, rfl, h.lt, fun i hi => ?_⟩⟩
  rw [Nat.zero_add, h.cell]
  have : i < bs.length := by omega
  simp [vb, this]

/-- Put, for whoever only reads the row. -/
theorem put_is (s : Value) (l l' : List Bool) (v n N N' : Nat) (w : World) (hs : Sl w s (Bs.pack l)) (hn : n ≤ 32) (hv : Hid (v < 2 ^ n)) (hl : Hid (N = l.length)) (hN : N ≤ 1125899906842624) (hl' : Hid (l' = l ++ Bs.bitsOf v n)) (hN' : Hid (N' = N + n)) :
    Calls Try.prog 12 #[.agg #[s, .int .i64 (N : Int)], .int .i64 (v : Int), .int .i64 (n : Int)] w fun e w' =>
      ∃ a m cap, e = .returned (.tuple #[.agg #[.slice a m cap, .int .i64 (N' : Int)], .int .i64 0]) ∧ Sl w' (.slice a m cap) (Bs.pack l') ∧ Below w.heap.size w w' := by
  refine (put_ok s l v n w hs (by show _ ≤ _; rw [← hl.out]; exact hN) hn hv N hl).mono ?_
  rintro e w' ⟨g, m, rfl, hm, hg, hh, hb⟩
  have e1 : (l ++ Bs.bitsOf v n).length = N' := by rw [List.length_append, Bs.bitsOf_length, hN'.out, hl.out]
  refine ⟨some ⟨g, 0, none⟩, m, m, by rw [e1], ?_, hb⟩
  rw [hl'.out]
  have h2 := hN'.out
  exact Sl.has hh (Bs.pack_lt _) (by rw [Bs.pack_length, e1]; omega) m m (by rw [Bs.pack_length]; exact hm)

theorem get_is (s : Value) (l : List Bool) (N p n : Nat) (V : Int) (w : World) (hs : Sl w s (Bs.pack l)) (hl : Hid (N = l.length)) (hN : N ≤ 2251799813685248) (hn : n ≤ 32) (hp : p + n ≤ N) (hV : Hid (V = ((Bs.num ((l.drop p).take n) : Nat) : Int))) :
    Calls Try.prog 20 #[.agg #[s, .int .i64 (N : Int)], .int .i64 (p : Int), .int .i64 (n : Int)] w fun e w' => e = .returned (.tuple #[.int .i64 V, .int .i64 0]) ∧ Below w.heap.size w w' := by
  rw [hV.out]
  exact get_ok s l N p n w hs hl hN hn hp

theorem turn_is (v n : Nat) (V : Int) (hn : n ≤ 16) (hv : Hid (v < 2 ^ n)) (hV : Hid (V = ((turned v n : Nat) : Int))) (w : World) :
    Calls Try.prog 22 #[.int .i64 (v : Int), .int .i64 (n : Int)] w fun e w' => e = .returned (.tuple #[.int .i64 V, .int .i64 0]) ∧ Below w.heap.size w w' := by
  rw [hV.out]
  exact turn_ok v n hn hv w

set_option maxHeartbeats 2000000 in
theorem lives_any (w : World) : Calls Try.prog 19 #[] w fun e w' => e = .returned (.bool true) ∧ Below w.heap.size w w' := by
  go_enter Try.func19, Try.ntmps19
  go_wp2_with fail
  refine (put_is (.slice none 0 0) [] [true, false, true] 5 3 0 3 w (Sl.nil w) (by omega) (by show _ < _; decide) rfl (by omega) (by show _ = _; decide) rfl).mono ?_
  rintro e w1 ⟨a1, m1, q1, rfl, s1, b1⟩
  have k1 := Has.new w1 (.cells #[.slice a1 m1 q1, .int .i64 ((3 : Nat) : Int)] 24)
  have S1 := Lib.hid (s1.later (below1 w1 (.cells #[.slice a1 m1 q1, .int .i64 ((3 : Nat) : Int)] 24)))
  have B1 := Lib.hid b1
  clear s1 b1
  go_wp2_with fail
  refine (put_is (.slice a1 m1 q1) [true, false, true] [true, false, true, true] 1 1 3 4 _ S1.out (by omega) (by show _ < _; decide) rfl (by omega) (by show _ = _; decide) rfl).mono ?_
  rintro e w2 ⟨a2, m2, q2, rfl, s2, b2⟩
  have bb := Lib.hid (B1.out.trans ((below1 w1 _).mono B1.out.size |>.trans (b2.mono (by simp; have := B1.out.size; omega))))
  have k2 := Lib.hid (Has.new w2 (.cells #[.slice a2 m2 q2, .int .i64 ((4 : Nat) : Int)] 24))
  have S2 := Lib.hid (s2.later (below1 w2 (.cells #[.slice a2 m2 q2, .int .i64 ((4 : Nat) : Int)] 24)))
  have B2 := Lib.hid (bb.out.trans ((below1 w2 (.cells #[.slice a2 m2 q2, .int .i64 ((4 : Nat) : Int)] 24)).mono bb.out.size))
  clear s2 b2 k1 bb S1 B1
  go_wp2_with fail
  refine (get_is (.slice a2 m2 q2) [true, false, true, true] 4 1 3 6 _ S2.out rfl (by omega) (by omega) (by omega) (by show _ = _; decide)).mono ?_
  rintro e w3 ⟨rfl, b3⟩
  have k3 := Lib.hid (k2.out.later b3)
  have S3 := Lib.hid (S2.out.later b3)
  have B3 := Lib.hid (B2.out.trans (b3.mono B2.out.size))
  have c3 := k3.out.two
  obtain ⟨c0, c1, f0, f1⟩ := c3
  clear b3 k2 S2 B2
  go_wp2_with fail
  refine (turn_is 1 3 4 (by omega) (by show _ < _; decide) (by show _ = _; decide) _).mono ?_
  rintro e w4 ⟨rfl, b4⟩
  have k4 := Lib.hid (k3.out.later b4)
  have S4 := Lib.hid (S3.out.later b4)
  have B4 := Lib.hid (B3.out.trans (b4.mono B3.out.size))
  have c4 := k4.out.two
  clear b4 k3 S3 B3 c0 c1 f0 f1
  obtain ⟨c0, c1, f0, f1⟩ := c4
  go_wp2_with fail
  refine (get_short (.slice a2 m2 q2) _ 4 2 3 _ S4.out (by omega) (Bs.pack_right [true, false, true, true]) (by omega) (by omega) (by omega)).mono ?_
  rintro e w5 ⟨rfl, b5⟩
  have k5 := Lib.hid (k4.out.later b5)
  have S5 := Lib.hid (S4.out.later b5)
  have B5 := Lib.hid (B4.out.trans (b5.mono B4.out.size))
  have c5 := k5.out.two
  clear b5 k4 S4 B4 c0 c1 f0 f1
  obtain ⟨c0, c1, f0, f1⟩ := c5
  have SL : Hid (Sl (w5.alloc (.cells #[.int .u8 13] 5)) (.slice (some ⟨w5.heap.size, 0, none⟩) 1 1) (Bs.pack [true, false, true, true])) := by
    have h : Has (w5.alloc (.cells #[.int .u8 13] 5)) w5.heap.size (bytesObj (Bs.pack [true, false, true, true])) := Has.new w5 _
    exact Sl.has h (Bs.pack_lt _) (by decide) 1 1 (by decide)
  have S6 := Lib.hid (S5.out.later (below1 w5 (.cells #[.int .u8 13] 5)))
  have B6 := Lib.hid (B5.out.trans ((below1 w5 (.cells #[.int .u8 13] 5)).mono B5.out.size))
  go_wp2_with fail
  refine (same_is _ _ 4 4 _ _ S6.out SL.out rfl).mono ?_
  rintro e w7 ⟨rfl, b7⟩
  have B7 := Lib.hid (B6.out.trans (b7.mono B6.out.size))
  clear b7
  go_wp2
  go_ret
  exact ⟨rfl, B7.out⟩
end Go.Proofs.Ytcehdngdkfoioaa
