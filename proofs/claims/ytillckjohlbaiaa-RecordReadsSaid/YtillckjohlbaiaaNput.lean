/- Contracts of width.put and width.get. -/
import Derived.Test.YtillckjohlbaiaaNleaf
import Derived.Test.YtillckjohlbaiaaNround

namespace Go.Proofs.Ytillckjohlbaiaa
set_option maxRecDepth 100000
open Go.RowKit

/-- Does a number fit so many bytes? -/
def Fits (wd n : Nat) : Prop := (wd = 2 ∧ n < 65536) ∨ (wd = 4 ∧ n < 4294967296)

theorem le2_is (n : Nat) : Fd.le 2 n = [n / 1 % 256, n / 256 % 256] := rfl
theorem le4_is (n : Nat) : Fd.le 4 n = [n / 1 % 256, n / 256 % 256, n / 65536 % 256, n / 16777216 % 256] := rfl

theorem Mine.cap {w : World} {B : Nat} {a : Option Addr} {n cap : Nat} {l : List Nat} (h : Mine w B a n cap l) : n ≤ cap := by
  rcases h.1.2 with ⟨e, e2⟩ | ⟨g, c, cur, e, _, _, hc, _⟩
  · injection e with e1 e3 e4; omega
  · injection e with e1 e3 e4; omega
theorem Mine.form {w : World} {B : Nat} {a : Option Addr} {n cap : Nat} {l : List Nat} (h : Mine w B a n cap l) (hn : 0 < n) : ∃ g, a = some ⟨g, 0, none⟩ ∧ B ≤ g ∧ g < w.heap.size := by
  rcases h.1.2 with ⟨e, e2⟩ | ⟨g, c, cur, e, hb, hg, hc, _⟩
  · omega
  · injection e with e1 e3 e4
    exact ⟨g, e1, hb, lt_of_block hg⟩
theorem Mine.lo {w w' : World} {b m B : Nat} {a : Option Addr} {n cap : Nat} {l : List Nat} (h : Mine w B a n cap l) (hl : Lo b m w w') (hb : b + m ≤ B) : Mine w' B a n cap l := by
  obtain ⟨⟨h1, h2⟩, h3⟩ := h
  refine ⟨⟨h1, ?_⟩, h3⟩
  rcases h2 with h' | ⟨g, c, cur, h', hbg, hgc, r⟩
  · exact Or.inl h'
  · exact Or.inr ⟨g, c, cur, h', hbg, (hl.block g (Array.getElem?_eq_some_iff.1 hgc).1 (Or.inr (by omega))).trans hgc, r⟩

set_option maxHeartbeats 1000000 in
theorem wput_ok (wd : Nat) (a : Option Addr) (len cap : Nat) (bs : List Nat) (n : Nat) (hn : Fits wd n) (hc : len ≤ cap) (hl : len + 4 ≤ 140737488355328) (w : World) (hs : Sl w (.slice a len cap) bs) :
    Calls Try.prog 110 #[.int .i64 (wd : Int), .slice a len cap, .int .i64 (n : Int)] w fun e w' => ∃ a' cap', e = .returned (.tuple #[.slice a' (len + wd) cap', .int .i64 0]) ∧ Mine w' w.heap.size a' (len + wd) cap' (bs ++ Fd.le wd n) ∧ Below w.heap.size w w' := by
  rcases hn with ⟨rfl, hn⟩ | ⟨rfl, hn⟩
  · have H := Lib.hid (put2_ok a len cap bs n hn hc (by omega) w hs)
    clear hs
    rw [le2_is]
    go_enter Try.func110, Try.ntmps110
    go_wp2_with fail
    refine H.out.mono ?_
    rintro e w2 ⟨a2, cap2, rfl, hm, hb⟩
    have HM := Lib.hid hm
    have HB := Lib.hid hb
    clear hm hb H
    go_wp2
    go_ret2
    exact ⟨_, _, rfl, HM.out, HB.out⟩
  · have H := Lib.hid (put4_ok a len cap bs n hn hc (by omega) w hs)
    clear hs
    rw [le4_is]
    go_enter Try.func110, Try.ntmps110
    go_wp2_with fail
    refine H.out.mono ?_
    rintro e w2 ⟨a2, cap2, rfl, hm, hb⟩
    have HM := Lib.hid hm
    have HB := Lib.hid hb
    clear hm hb H
    go_wp2
    go_ret2
    exact ⟨_, _, rfl, HM.out, HB.out⟩

set_option maxHeartbeats 1000000 in
theorem wput_bad (wd : Nat) (a : Option Addr) (len cap : Nat) (n : Int) (hn : (wd = 2 ∧ (n < 0 ∨ 65535 < n)) ∨ (wd = 4 ∧ (n < 0 ∨ 4294967295 < n))) (w : World) :
    Calls Try.prog 110 #[.int .i64 (wd : Int), .slice a len cap, .int .i64 n] w fun e w' => e = .returned (.tuple #[.slice none 0 0, .int .i64 2]) ∧ Below w.heap.size w w' := by
  rcases hn with ⟨rfl, hn⟩ | ⟨rfl, hn⟩
  · have H := Lib.hid (put2_bad a len cap n hn w)
    clear hn
    go_enter Try.func110, Try.ntmps110
    go_wp2_with fail
    refine H.out.mono ?_
    rintro e w2 ⟨rfl, hb⟩
    have HB := Lib.hid hb
    clear hb H
    go_wp2
    go_ret2
    exact ⟨rfl, HB.out⟩
  · have H := Lib.hid (put4_bad a len cap n hn w)
    clear hn
    go_enter Try.func110, Try.ntmps110
    go_wp2_with fail
    refine H.out.mono ?_
    rintro e w2 ⟨rfl, hb⟩
    have HB := Lib.hid hb
    clear hb H
    go_wp2
    go_ret2
    exact ⟨rfl, HB.out⟩

/-- The number that so many bytes are. -/
def nm (l : List Nat) : Nat := match l with
  | [x, y] => x + 256 * y
  | [x, y, z, u] => x + 256 * y + 65536 * z + 16777216 * u
  | _ => 0

theorem two_of {l : List Nat} (h : l.length = 2) : ∃ x y, l = [x, y] := by
  match l, h with
  | [x, y], _ => exact ⟨x, y, rfl⟩
theorem four_of {l : List Nat} (h : l.length = 4) : ∃ x y z u, l = [x, y, z, u] := by
  match l, h with
  | [x, y, z, u], _ => exact ⟨x, y, z, u, rfl⟩

set_option maxHeartbeats 1000000 in
theorem wget_ok (wd : Nat) (hw : wd = 2 ∨ wd = 4) (a : Option Addr) (len cap : Nat) (bs : List Nat) (i : Nat) (h : i + wd ≤ len) (hc : len ≤ cap) (w : World) (hs : Sl w (.slice a len cap) bs) :
    Calls Try.prog 120 #[.int .i64 (wd : Int), .slice a len cap, .int .i64 (i : Int)] w fun e w' => e = .returned (.tuple #[.int .i64 ((nm ((bs.drop i).take wd) : Nat) : Int), .int .i64 0]) ∧ Below w.heap.size w w' := by
  have hlen := hs.len.1
  rcases hw with rfl | rfl
  · obtain ⟨x, y, hx⟩ := two_of (l := (bs.drop i).take 2) (by rw [List.length_take, List.length_drop]; omega)
    have H := Lib.hid (get2_ok a len cap bs i x y h hc hx w hs)
    rw [hx]
    have e : nm [x, y] = x + 256 * y := rfl
    rw [e]
    generalize x + 256 * y = v at *
    clear hs e hx hlen
    go_enter Try.func120, Try.ntmps120
    go_wp2_with fail
    refine H.out.mono ?_
    rintro e w2 ⟨rfl, hb⟩
    have HB := Lib.hid hb
    clear hb H
    go_wp2
    go_ret2
    exact ⟨rfl, HB.out⟩
  · obtain ⟨x, y, z, u, hx⟩ := four_of (l := (bs.drop i).take 4) (by rw [List.length_take, List.length_drop]; omega)
    have H := Lib.hid (get4_ok a len cap bs i x y z u h hc hx w hs)
    rw [hx]
    have e : nm [x, y, z, u] = x + 256 * y + 65536 * z + 16777216 * u := rfl
    rw [e]
    generalize x + 256 * y + 65536 * z + 16777216 * u = v at *
    clear hs e hx hlen
    go_enter Try.func120, Try.ntmps120
    go_wp2_with fail
    refine H.out.mono ?_
    rintro e w2 ⟨rfl, hb⟩
    have HB := Lib.hid hb
    clear hb H
    go_wp2
    go_ret2
    exact ⟨rfl, HB.out⟩
end Go.Proofs.Ytillckjohlbaiaa
