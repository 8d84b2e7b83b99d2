/- Contracts of what the statements themselves call: own and kept. -/
import Derived.Test.YtmakdenhmdjgjaaFref
import Derived.Laws.BytesArg
import Derived.Laws.BytesString
namespace Go.Proofs.Ytmakdenhmdjgjaa
open Go.RowKit

/-- A row of bytes as a string. -/
def strB (bs : List Nat) : ByteArray := strOfNums (bs.map fun (x : Nat) => (x : Int))

/-- string(b), whatever the slice. -/
theorem run_string {P : Program} (w : World) (src dst e : TypeId) (hs : P.underlying src = some (.slice e)) (he : P.underlying e = some (.int .u8)) (hd : P.underlying dst = some .string) (a : Option Addr) (len cap : Nat) (bs : List Nat) (h : Sl w (.slice a len cap) bs) :
    (convert src dst (.slice a len cap)).run P w = .ok (.string (strB bs)) w := by
  obtain ⟨a', len', cap', he', h1, h2, h3, h4, h5⟩ := h
  injection he' with e1 e2 e3
  subst e1 e2 e3
  by_cases h0 : 0 < len
  · obtain ⟨b, off, rfl, hlt, hc⟩ := h5 h0
    refine run_convert_bytes_arg w src e hs he b off len cap (bs.map fun (x : Nat) => (x : Int)) (by rw [List.length_map, h1]) (fun i hi => ?_) dst hd
    rw [hc i hi]
    simp [List.getD, List.getElem?_eq_getElem (show i < bs.length by omega)]
  · obtain rfl : len = 0 := by omega
    obtain rfl : bs = [] := List.eq_nil_of_length_eq_zero h1.symm
    cases a with
    | none => exact run_convert_bytes_nil w src e hs he 0 cap dst hd
    | some p =>
      have hl : (loadCells p 0).run P w = .ok (([] : List Int).map (Value.int .u8)).toArray w := by
        have := run_loadCells_list (P := P) w p [] (fun j v hj => by simp at hj)
        simpa using this
      rw [run_convert_bytes_string w src dst e _ 0 cap hs he hd, run_bytesToString w p 0 cap [] hl]
      rfl

theorem string_of (w : World) (a : Option Addr) (len cap : Nat) (bs : List Nat) (S : ByteArray) (h : Sl w (.slice a len cap) bs) (hS : Hid (S = strB bs)) : (convert 22 9 (.slice a len cap)).run Try.prog w = .ok (.string S) w := by
  rw [hS.out]
  exact run_string w 22 9 5 Try.underlying22 Try.underlying5 Try.underlying9 a len cap bs h

theorem own_form {w : World} {base : Nat} {e : TypeId} {size : Nat} {v : Value} {n : Nat} {xs : List Value} (h : w.ownsRow base e size v (n + 1) xs) : ∃ g cap, v = .slice (some ⟨g, 0, none⟩) (n + 1) cap ∧ n + 1 ≤ cap ∧ base ≤ g := by
  rcases h.2 with ⟨_, h⟩ | ⟨g, cap, cur, rfl, hb, _, hc, _⟩
  · omega
  · exact ⟨_, _, rfl, hc, hb⟩

/-- A slice with a byte 0x77 behind its end, in a block of its own. -/
def Lent (w : World) (g len cap : Nat) (bs : List Nat) : Prop :=
  Sl w (.slice (some ⟨g, 0, none⟩) len cap) bs ∧ len + 1 ≤ cap ∧ g < w.heap.size ∧ w.cell? ⟨g, len, none⟩ = some (.int .u8 119)

theorem Lent.later {w w' : World} {g len cap : Nat} {bs : List Nat} (h : Lent w g len cap bs) (hb : Below w.heap.size w w') : Lent w' g len cap bs :=
  ⟨h.1.later hb, h.2.1, Nat.lt_of_lt_of_le h.2.2.1 hb.size, (hb.cell (p := ⟨g, len, none⟩) h.2.2.1).trans h.2.2.2⟩

theorem own_lent {w : World} {base g c len : Nat} {bs : List Nat} (h : w.ownsRow base 5 1 (.slice (some ⟨g, 0, none⟩) (len + 1) c) (len + 1) (vb (bs ++ [119]))) (hl : len = bs.length) (h8 : ∀ x ∈ bs, x < 256) (hc : len + 1 ≤ c) (hle : len ≤ 281474976710656) : Lent w g len c bs := by
  have hcell : ∀ j, j < len + 1 → w.cell? ⟨g, j, none⟩ = (vb (bs ++ [119]))[j]? := fun j hj => h.cellAt j (by omega)
  have e119 : (vb (bs ++ [119]))[len]? = some (.int .u8 119) := by
    rw [vb_get, List.getElem?_append_right (by omega), hl, Nat.sub_self]
    rfl
  have hlt : g < w.heap.size := by
    have := hcell len (by omega)
    rw [e119] at this
    exact World.block_lt_of_cell? w _ this
  refine ⟨⟨_, len, c, rfl, hl, hle, fun h => by simp at h, h8, fun _ => ⟨g, 0, rfl, hlt, fun i hi => ?_⟩⟩, hc, hlt, ?_⟩
  · rw [Nat.zero_add, hcell i (by omega), vb_get, List.getElem?_append_left (by omega), List.getElem?_eq_getElem (by omega)]
    rfl
  · rw [hcell len (by omega), e119]

set_option maxHeartbeats 4000000 in
theorem own_walk (a : Option Addr) (len cap : Nat) (bs : List Nat) (w : World) (hs : Sl w (.slice a len cap) bs) (hl : len ≤ 140737488351232) :
    Calls Try.prog 10 #[.slice a len cap] w fun e w' => ∃ g cap', e = .returned (.slice (some ⟨g, 0, none⟩) len cap') ∧ Lent w' g len cap' bs ∧ Below w.heap.size w w' := by
  have HS := Lib.hid hs
  have HL := Lib.hid hs.len.1
  have H8 := Lib.hid hs.bytes
  clear hs
  have A1 : Hid ((w.alloc (.cells #[] 5)).ownsRow w.heap.size 5 1 (.slice (some ⟨w.heap.size, 0, none⟩) 0 0) 0 []) :=
    World.ownsRow_lit (base := w.heap.size) (e := 5) (size := 1) w #[] 0 (by simp) (by unfold maxLen; omega) rfl
  have B0 : Hid (Below w.heap.size w (w.alloc (.cells #[] 5))) := below1 w _
  have S0 := Lib.hid (HS.out.later B0.out)
  go_enter Try.func10, Try.ntmps10
  go_wp2_with (at_builtin; first | (refine wpList_append_sl rfl (.tmp 3) (.tmp 4) rfl w.heap.size w.heap.size 0 0 [] rfl A1.out a len cap bs rfl S0.out (by omega) (by simp) ?_; intro g1 c1 w1 ho1 hg1; have hO1 := Lib.hid (own_app_zero ho1.out); have hB1 := Lib.hid (below_grown B0.out hg1.out (by omega) B0.out.size); have hO2 := Lib.hid (World.ownsRow.alloc hO1.out (.cells #[.int .u8 119] 5)); have hB2 := Lib.hid (hB1.out.alloc hB1.out.size (.cells #[.int .u8 119] 5)); have hC2 := Lib.hid (Has.new w1 (.cells #[.int .u8 119] 5)).one.1; have hgz := own_base hO1.out; clear ho1 hg1) | (refine wpList_append_byte rfl (.tmp 5) (.tmp 6) rfl w.heap.size _ len bs rfl hO2.out w1.heap.size 119 rfl hC2.out (by omega) hB2.out.size ?_; intro v3 w3 ho3 hg3; have hO3 := Lib.hid ho3.out; have hB3 := Lib.hid (below_grown hB2.out hg3.out hgz hB2.out.size); clear ho3 hg3; obtain ⟨g3, c3, rfl, hc3, _⟩ := own_form hO3.out; have hc4 : len ≤ c3 := Nat.le_of_succ_le hc3))
  go_ret
  exact ⟨_, _, rfl, own_lent hO3.out HL.out H8.out hc3 (by omega), hB3.out⟩

set_option maxHeartbeats 2000000 in
theorem kept_walk (g len cap : Nat) (a2 : Option Addr) (c2 : Nat) (bs : List Nat) (w : World) (ht : Lent w g len cap bs) (hs : Sl w (.slice a2 len c2) bs) (hl : len ≤ 140737488351232) :
    Calls Try.prog 14 #[.slice (some ⟨g, 0, none⟩) len cap, .slice a2 len c2] w fun e w' => e = .returned (.bool true) ∧ w = w' := by
  have T0 := Lib.hid ht
  have S0 := Lib.hid hs
  have hcell := ht.2.2.2
  have hcap := ht.2.1
  have hwr : IntKind.i64.wrap ((len : Int) + 1) = (len : Int) + 1 := IntWalk.i64_in _ (by omega)
  have hcap0 : (len : Int) + 1 ≤ (cap : Int) := by omega
  have hi0 : (0 : Int) ≤ (len : Int) + 1 := by omega
  have hlt9 : (len : Int) < (len : Int) + 1 := by omega
  have hge9 : (0 : Int) ≤ (len : Int) := by omega
  obtain ⟨S, hS⟩ : ∃ S, S = strB bs := ⟨_, rfl⟩
  have r1 := string_of w _ _ _ bs S ht.1 hS
  have r2 := string_of w _ _ _ bs S hs hS
  clear ht hs hS
  go_enter Try.func14, Try.ntmps14
  go_wp2_with fail
  go_ret
  exact ⟨rfl, rfl⟩
end Go.Proofs.Ytmakdenhmdjgjaa
