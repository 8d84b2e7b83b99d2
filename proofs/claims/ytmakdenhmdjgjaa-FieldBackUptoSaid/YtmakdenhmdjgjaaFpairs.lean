/- The program's and the document's answers side by side. -/
import Derived.Test.YtmakdenhmdjgjaaFlives
import Derived.Test.YtmakdenhmdjgjaaFrget
namespace Go.Proofs.Ytmakdenhmdjgjaa
open Go.RowKit

/-- A call answers bytes that read l, and c. -/
def TellsRow (f : FuncId) (args : Array Value) (l : List Nat) (c : Int) (w : World) : Prop :=
  Calls Try.prog f args w fun e w' => ∃ a m cap, e = .returned (.tuple #[.slice a m cap, .int .i64 c]) ∧ Sl w' (.slice a m cap) l ∧ Below w.heap.size w w'

theorem le2 (n : Nat) : [n / 1 % 256, n / 256 % 256] = Fd.le 2 n := by simp [Fd.le, List.range_succ]
theorem le4 (n : Nat) : [n / 1 % 256, n / 256 % 256, n / 65536 % 256, n / 16777216 % 256] = Fd.le 4 n := by simp [Fd.le, List.range_succ]

theorem put2_pair (bs : List Nat) (n : Int) (hb : bs.length ≤ 140737488351232) : ∃ l c, (∀ a len cap w, Sl w (.slice a len cap) bs → len ≤ cap → TellsRow 11 #[.slice a len cap, .int .i64 n] l c w) ∧
    (∀ a len cap w, Sl w (.slice a len cap) bs → TellsRow 12 #[.slice a len cap, .int .i64 n, .int .i64 2] l c w) := by
  by_cases h : 0 ≤ n ∧ n ≤ 65535
  · obtain ⟨k, rfl⟩ : ∃ k : Nat, n = (k : Int) := ⟨n.toNat, by omega⟩
    refine ⟨bs ++ Fd.le 2 k, 0, fun a len cap w hs hc => ?_, fun a len cap w hs => ?_⟩
    · have hl := hs.len.1
      have := put2_ok a len cap bs k (by omega) hc (by omega) w hs
      rw [le2] at this
      exact this.mono fun _ _ ⟨a', c', h1, h2, h3⟩ => ⟨a', _, c', h1, h2.sl (by omega), h3⟩
    · have hl := hs.len.1
      exact (rput_ok a len cap bs k 2 65535 (Or.inl ⟨rfl, rfl⟩) (by omega) (by omega) w hs).mono fun _ _ ⟨a', c', h1, h2, h3⟩ => ⟨a', _, c', h1, h2.sl (by omega), h3⟩
  · have h' : n < 0 ∨ 65535 < n := by omega
    refine ⟨[], 2, fun a len cap w hs hc => ?_, fun a len cap w hs => ?_⟩
    · exact (put2_bad a len cap n h' w).mono fun _ _ ⟨h1, h2⟩ => ⟨none, 0, 0, h1, Sl.nil _, h2⟩
    · exact (rput_bad a len cap n 2 65535 (Or.inl ⟨rfl, rfl⟩) h' w).mono fun _ _ ⟨h1, h2⟩ => ⟨none, 0, 0, h1, Sl.nil _, h2 ▸ Below.refl _ _⟩

theorem put4_pair (bs : List Nat) (n : Int) (hb : bs.length ≤ 140737488351232) : ∃ l c, (∀ a len cap w, Sl w (.slice a len cap) bs → len ≤ cap → TellsRow 13 #[.slice a len cap, .int .i64 n] l c w) ∧
    (∀ a len cap w, Sl w (.slice a len cap) bs → TellsRow 12 #[.slice a len cap, .int .i64 n, .int .i64 4] l c w) := by
  by_cases h : 0 ≤ n ∧ n ≤ 4294967295
  · obtain ⟨k, rfl⟩ : ∃ k : Nat, n = (k : Int) := ⟨n.toNat, by omega⟩
    refine ⟨bs ++ Fd.le 4 k, 0, fun a len cap w hs hc => ?_, fun a len cap w hs => ?_⟩
    · have hl := hs.len.1
      have := put4_ok a len cap bs k (by omega) hc (by omega) w hs
      rw [le4] at this
      exact this.mono fun _ _ ⟨a', c', h1, h2, h3⟩ => ⟨a', _, c', h1, h2.sl (by omega), h3⟩
    · have hl := hs.len.1
      exact (rput_ok a len cap bs k 4 4294967295 (Or.inr ⟨rfl, rfl⟩) (by omega) (by omega) w hs).mono fun _ _ ⟨a', c', h1, h2, h3⟩ => ⟨a', _, c', h1, h2.sl (by omega), h3⟩
  · have h' : n < 0 ∨ 4294967295 < n := by omega
    refine ⟨[], 2, fun a len cap w hs hc => ?_, fun a len cap w hs => ?_⟩
    · exact (put4_bad a len cap n h' w).mono fun _ _ ⟨h1, h2⟩ => ⟨none, 0, 0, h1, Sl.nil _, h2⟩
    · exact (rput_bad a len cap n 4 4294967295 (Or.inr ⟨rfl, rfl⟩) h' w).mono fun _ _ ⟨h1, h2⟩ => ⟨none, 0, 0, h1, Sl.nil _, h2 ▸ Below.refl _ _⟩

theorem take2 (bs : List Nat) (i : Nat) (h : i + 2 ≤ bs.length) : ∃ x y, (bs.drop i).take 2 = [x, y] := by
  have hl : ((bs.drop i).take 2).length = 2 := by simp; omega
  match (bs.drop i).take 2, hl with
  | [x, y], _ => exact ⟨x, y, rfl⟩
theorem take4 (bs : List Nat) (i : Nat) (h : i + 4 ≤ bs.length) : ∃ x y z u, (bs.drop i).take 4 = [x, y, z, u] := by
  have hl : ((bs.drop i).take 4).length = 4 := by simp; omega
  match (bs.drop i).take 4, hl with
  | [x, y, z, u], _ => exact ⟨x, y, z, u, rfl⟩

/-- A call answers a number and c. -/
def TellsNum (f : FuncId) (args : Array Value) (v c : Int) (w : World) : Prop :=
  Calls Try.prog f args w fun e w' => e = .returned (.tuple #[.int .i64 v, .int .i64 c]) ∧ Below w.heap.size w w'

theorem get2_pair (bs : List Nat) (i : Int) (hb : bs.length ≤ 140737488351232) : ∃ v c, (∀ a len cap w, Sl w (.slice a len cap) bs → len ≤ cap → TellsNum 16 #[.slice a len cap, .int .i64 i] v c w) ∧
    (∀ a len cap w, Sl w (.slice a len cap) bs → len ≤ cap → TellsNum 17 #[.slice a len cap, .int .i64 i, .int .i64 2] v c w) := by
  by_cases h : i < 0 ∨ (bs.length : Int) < i
  · refine ⟨0, 2, fun a len cap w hs hc => ?_, fun a len cap w hs hc => ?_⟩
    · have hl := hs.len.1
      exact (get2_bad a len cap i (by omega) w).mono fun _ _ ⟨h1, h2⟩ => ⟨h1, h2 ▸ Below.refl _ _⟩
    · have hl := hs.len.1
      exact (rget_bad a len cap 2 i (by omega) w).mono fun _ _ ⟨h1, h2⟩ => ⟨h1, h2 ▸ Below.refl _ _⟩
  · by_cases h2 : (bs.length : Int) - i < 2
    · refine ⟨0, 4, fun a len cap w hs hc => ?_, fun a len cap w hs hc => ?_⟩
      · have hl := hs.len.1
        exact (get2_short a len cap i (by omega) (by omega) (by omega) (by omega) w).mono fun _ _ ⟨h1, h2⟩ => ⟨h1, h2 ▸ Below.refl _ _⟩
      · have hl := hs.len.1
        exact (rget_short a len cap 2 i (by omega) (by omega) (by omega) (by omega) w).mono fun _ _ ⟨h1, h2⟩ => ⟨h1, h2 ▸ Below.refl _ _⟩
    · obtain ⟨k, rfl⟩ : ∃ k : Nat, i = (k : Int) := ⟨i.toNat, by omega⟩
      obtain ⟨x, y, hx⟩ := take2 bs k (by omega)
      refine ⟨((x + 256 * y : Nat) : Int), 0, fun a len cap w hs hc => ?_, fun a len cap w hs hc => ?_⟩
      · have hl := hs.len.1
        exact get2_ok a len cap bs k x y (by omega) hc hx w hs
      · have hl := hs.len.1
        exact rget2_ok a len cap bs k x y (by omega) hc hx w hs

theorem get4_pair (bs : List Nat) (i : Int) (hb : bs.length ≤ 140737488351232) : ∃ v c, (∀ a len cap w, Sl w (.slice a len cap) bs → len ≤ cap → TellsNum 18 #[.slice a len cap, .int .i64 i] v c w) ∧
    (∀ a len cap w, Sl w (.slice a len cap) bs → len ≤ cap → TellsNum 17 #[.slice a len cap, .int .i64 i, .int .i64 4] v c w) := by
  by_cases h : i < 0 ∨ (bs.length : Int) < i
  · refine ⟨0, 2, fun a len cap w hs hc => ?_, fun a len cap w hs hc => ?_⟩
    · have hl := hs.len.1
      exact (get4_bad a len cap i (by omega) w).mono fun _ _ ⟨h1, h2⟩ => ⟨h1, h2 ▸ Below.refl _ _⟩
    · have hl := hs.len.1
      exact (rget_bad a len cap 4 i (by omega) w).mono fun _ _ ⟨h1, h2⟩ => ⟨h1, h2 ▸ Below.refl _ _⟩
  · by_cases h2 : (bs.length : Int) - i < 4
    · refine ⟨0, 4, fun a len cap w hs hc => ?_, fun a len cap w hs hc => ?_⟩
      · have hl := hs.len.1
        exact (get4_short a len cap i (by omega) (by omega) (by omega) (by omega) w).mono fun _ _ ⟨h1, h2⟩ => ⟨h1, h2 ▸ Below.refl _ _⟩
      · have hl := hs.len.1
        exact (rget_short a len cap 4 i (by omega) (by omega) (by omega) (by omega) w).mono fun _ _ ⟨h1, h2⟩ => ⟨h1, h2 ▸ Below.refl _ _⟩
    · obtain ⟨k, rfl⟩ : ∃ k : Nat, i = (k : Int) := ⟨i.toNat, by omega⟩
      obtain ⟨x, y, z, u, hx⟩ := take4 bs k (by omega)
      refine ⟨((x + 256 * y + 65536 * z + 16777216 * u : Nat) : Int), 0, fun a len cap w hs hc => ?_, fun a len cap w hs hc => ?_⟩
      · have hl := hs.len.1
        exact get4_ok a len cap bs k x y z u (by omega) hc hx w hs
      · have hl := hs.len.1
        exact rget4_ok a len cap bs k x y z u (by omega) hc hx w hs

/-- A call answers bytes in memory of its own that read l, and c. -/
def TellsMine (f : FuncId) (args : Array Value) (l : List Nat) (c : Int) (w : World) : Prop :=
  Calls Try.prog f args w fun e w' => ∃ a m cap, e = .returned (.tuple #[.slice a m cap, .int .i64 c]) ∧ Mine w' w.heap.size a m cap l ∧ Below w.heap.size w w'

theorem Mine.nil (w : World) (B : Nat) : Mine w B none 0 0 [] := ⟨⟨rfl, Or.inl ⟨rfl, rfl⟩⟩, rfl, fun _ h => (nomatch h)⟩

theorem piece_pair (bs : List Nat) (i k : Int) (hb : bs.length ≤ 140737488351232) : ∃ l c, l.length ≤ 140737488351232 ∧ (∀ a len cap w, Sl w (.slice a len cap) bs → len ≤ cap → TellsMine 19 #[.slice a len cap, .int .i64 i, .int .i64 k] l c w) ∧
    (∀ a len cap w, Sl w (.slice a len cap) bs → len ≤ cap → TellsMine 20 #[.slice a len cap, .int .i64 i, .int .i64 k] l c w) := by
  by_cases h : i < 0 ∨ (bs.length : Int) < i ∨ k < 0
  · refine ⟨[], 2, by simp, fun a len cap w hs hc => ?_, fun a len cap w hs hc => ?_⟩
    · have hl := hs.len.1
      exact (piece_bad a len cap i k (by omega) w).mono fun _ _ ⟨h1, h2⟩ => ⟨none, 0, 0, h1, Mine.nil _ _, h2 ▸ Below.refl _ _⟩
    · have hl := hs.len.1
      exact (rpiece_bad a len cap i k (by omega) w).mono fun _ _ ⟨h1, h2⟩ => ⟨none, 0, 0, h1, Mine.nil _ _, h2 ▸ Below.refl _ _⟩
  · by_cases h2 : (bs.length : Int) - i < k
    · refine ⟨[], 4, by simp, fun a len cap w hs hc => ?_, fun a len cap w hs hc => ?_⟩
      · have hl := hs.len.1
        exact (piece_short a len cap i k (by omega) (by omega) (by omega) (by omega) w).mono fun _ _ ⟨h1, h2⟩ => ⟨none, 0, 0, h1, Mine.nil _ _, h2 ▸ Below.refl _ _⟩
      · have hl := hs.len.1
        exact (rpiece_short a len cap i k (by omega) (by omega) (by omega) (by omega) w).mono fun _ _ ⟨h1, h2⟩ => ⟨none, 0, 0, h1, Mine.nil _ _, h2 ▸ Below.refl _ _⟩
    · obtain ⟨p, rfl⟩ : ∃ p : Nat, i = (p : Int) := ⟨i.toNat, by omega⟩
      obtain ⟨q, rfl⟩ : ∃ q : Nat, k = (q : Int) := ⟨k.toNat, by omega⟩
      refine ⟨(bs.drop p).take q, 0, by simp; omega, fun a len cap w hs hc => ?_, fun a len cap w hs hc => ?_⟩
      · have hl := hs.len.1
        exact (piece_ok a len cap bs p q (by omega) hc (by omega) w hs).mono fun _ _ ⟨a', c', h1, h2, h3⟩ => ⟨a', q, c', h1, h2, h3⟩
      · have hl := hs.len.1
        exact (rpiece_ok a len cap bs p q (by omega) hc (by omega) w hs).mono fun _ _ ⟨g', c', h1, h2, h3⟩ => ⟨_, q, c', h1, h2, h3⟩
end Go.Proofs.Ytmakdenhmdjgjaa
