/- Contracts of the document's Same, and of what the statements themselves call. -/
import Derived.Test.YtgffcffmhhdceaaHrow
namespace Go.Proofs.Ytgffcffmhhdceaa
open Go.RowKit

/-- A row of bytes as a string. -/
def strB (bs : List Nat) : ByteArray := strOfNums (bs.map fun (x : Nat) => (x : Int))

/-- string(b), whatever the slice. -/
theorem run_string {P : Program} (w : World) (src dst e : TypeId) (hs : P.underlying src = some (.slice e)) (he : P.underlying e = some (.int .u8)) (hd : P.underlying dst = some .string) (a : Option Addr) (len cap : Nat) (bs : List Nat) (h : Sl w (.slice a len cap) bs) :
    (convert src dst (.slice a len cap)).run P w = .ok (.string (strB bs)) w := by
  obtain ⟨a', len', cap', he', h1, h2, h3, h4, h5⟩ := h
  injection he' with e1 e2 e3
  subst e1 e2 e3
  by_cases h0 : 0 < len
  · obtain ⟨b, off, rfl, hlt, hc⟩ := h5 h0
    refine run_convert_bytes_arg w src e hs he b off len cap (bs.map fun (x : Nat) => (x : Int)) (by rw [List.length_map, h1]) (fun i hi => ?_) dst hd
    rw [hc i hi]
    simp [List.getD, List.getElem?_eq_getElem (show i < bs.length by omega)]
  · obtain rfl : len = 0 := by omega
    obtain rfl : bs = [] := List.eq_nil_of_length_eq_zero h1.symm
    cases a with
    | none => exact run_convert_bytes_nil w src e hs he 0 cap dst hd
    | some p =>
      have hl : (loadCells p 0).run P w = .ok (([] : List Int).map (Value.int .u8)).toArray w := by
        have := run_loadCells_list (P := P) w p [] (fun j v hj => by simp at hj)
        simpa using this
      rw [run_convert_bytes_string w src dst e _ 0 cap hs he hd, run_bytesToString w p 0 cap [] hl]
      rfl

set_option maxHeartbeats 1000000 in
theorem same_walk (a1 a2 : Option Addr) (n1 c1 n2 c2 : Nat) (N : Int) (bs : List Nat) (w : World) (h1 : Sl w (.slice a1 n1 c1) bs) (h2 : Sl w (.slice a2 n2 c2) bs) :
    Calls Try.prog 20 #[.agg #[.slice a1 n1 c1, .int .i64 N], .agg #[.slice a2 n2 c2, .int .i64 N]] w fun e w' => e = .returned (.bool true) ∧ Below w.heap.size w w' := by
  have hb := below2 w (.cells #[.slice a1 n1 c1, .int .i64 N] 36) (.cells #[.slice a2 n2 c2, .int .i64 N] 36)
  have r1 := run_string (P := Try.prog) _ 34 9 5 Try.underlying34 Try.underlying5 Try.underlying9 a1 n1 c1 bs (h1.later hb)
  have r2 := run_string (P := Try.prog) _ 34 9 5 Try.underlying34 Try.underlying5 Try.underlying9 a2 n2 c2 bs (h2.later hb)
  have HB := Lib.hid hb
  obtain ⟨S, hS⟩ : ∃ S, S = strB bs := ⟨_, rfl⟩
  rw [← hS] at r1 r2
  clear h1 h2 hb hS
  go_enter Try.func20, Try.ntmps20
  go_wp2
  go_ret
  exact ⟨rfl, HB.out⟩

theorem same_is (s1 s2 : Value) (N1 N2 : Int) (bs : List Nat) (w : World) (h1 : Sl w s1 bs) (h2 : Sl w s2 bs) (hN : Hid (N1 = N2)) :
    Calls Try.prog 20 #[.agg #[s1, .int .i64 N1], .agg #[s2, .int .i64 N2]] w fun e w' => e = .returned (.bool true) ∧ Below w.heap.size w w' := by
  rw [hN.out]
  obtain ⟨a1, n1, c1, rfl, _⟩ := h1.shape
  obtain ⟨a2, n2, c2, rfl, _⟩ := h2.shape
  exact same_walk a1 a2 n1 c1 n2 c2 N2 bs w h1 h2

theorem Sl.has {w : World} {g : Nat} {bs : List Nat} (h : Has w g (bytesObj bs)) (h8 : ∀ x ∈ bs, x < 256) (hl : bs.length ≤ 281474976710656) (m cap : Nat) (hm : m = bs.length) : Sl w (.slice (some ⟨g, 0, none⟩) m cap) bs := by
  refine ⟨_, m, cap, rfl, hm, by omega, fun h => by simp at h, h8, fun h0 => ⟨g, 0, rfl, h.lt, fun i hi => ?_⟩⟩
  rw [Nat.zero_add, h.cell]
  have : i < bs.length := by omega
  simp [vb, this]

end Go.Proofs.Ytgffcffmhhdceaa
