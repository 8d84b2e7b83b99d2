/- The program's function and the document's, side by side: whatever the arguments, both answer the same. -/
import Derived.Test.YtcehdngdkfoioaaSame
namespace Go.Proofs.Ytcehdngdkfoioaa
open Go.RowKit

theorem turn_none (v n : Int) (hf : n ≤ 16 → Hid (decide (0 ≤ n ∧ 0 ≤ v ∧ v / 2 ^ n.toNat = 0) = false)) (w : World) :
    Calls Try.prog 22 #[.int .i64 v, .int .i64 n] w fun e w' => e = .returned (.tuple #[.int .i64 0, .int .i64 2]) ∧ Below w.heap.size w w' := turn_bad v n hf w
theorem rturn_none (v n : Int) (hf : n ≤ 16 → Hid (decide (0 ≤ n ∧ 0 ≤ v ∧ v / 2 ^ n.toNat = 0) = false)) (w : World) :
    Calls Try.prog 23 #[.int .i64 v, .int .i64 n] w fun e w' => e = .returned (.tuple #[.int .i64 0, .int .i64 2]) ∧ Below w.heap.size w w' := rturn_bad v n hf w
theorem rturn_is (v n : Nat) (V : Int) (hn : n ≤ 16) (hv : Hid (v < 2 ^ n)) (hV : Hid (V = ((turned v n : Nat) : Int))) (w : World) :
    Calls Try.prog 23 #[.int .i64 (v : Int), .int .i64 (n : Int)] w fun e w' => e = .returned (.tuple #[.int .i64 V, .int .i64 0]) ∧ Below w.heap.size w w' := by
  rw [hV.out]
  exact rturn_ok v n hn hv w

/-- A number fits its bits, or not. -/
theorem fit_cases (v n mo : Int) : (∃ v' n' : Nat, v = (v' : Int) ∧ n = (n' : Int) ∧ (n' : Int) ≤ mo ∧ v' < 2 ^ n') ∨ (n ≤ mo → decide (0 ≤ n ∧ 0 ≤ v ∧ v / 2 ^ n.toNat = 0) = false) := by
  by_cases h : n ≤ mo ∧ (0 ≤ n ∧ 0 ≤ v ∧ v / 2 ^ n.toNat = 0)
  · obtain ⟨h0, h1, h2, h3⟩ := h
    obtain ⟨n', rfl⟩ := Int.eq_ofNat_of_zero_le h1
    obtain ⟨v', rfl⟩ := Int.eq_ofNat_of_zero_le h2
    refine Or.inl ⟨v', n', rfl, rfl, h0, ?_⟩
    have e : ((v' : Int) / 2 ^ (n' : Int).toNat) = ((v' / 2 ^ n' : Nat) : Int) := by simp
    rw [e] at h3
    have h4 : v' / 2 ^ n' = 0 := by omega
    rcases Nat.div_eq_zero_iff.1 h4 with h | h
    · exact absurd h (by have := Nat.two_pow_pos n'; omega)
    · exact h
  · exact Or.inr fun h0 => decide_eq_false fun h1 => h ⟨h0, h1⟩

/-- Two numbers are answered, in whatever world. -/
def Says2 (f : FuncId) (args : Array Value) (x y : Int) : Prop :=
  ∀ w : World, Calls Try.prog f args w fun e w' => e = .returned (.tuple #[.int .i64 x, .int .i64 y]) ∧ Below w.heap.size w w'

theorem turn_pair (v n : Int) : ∃ x c : Int, Says2 22 #[.int .i64 v, .int .i64 n] x c ∧ Says2 23 #[.int .i64 v, .int .i64 n] x c := by
  rcases fit_cases v n 16 with ⟨v', n', rfl, rfl, hn, hv⟩ | hf
  · exact ⟨_, 0, fun w => turn_is v' n' _ (by omega) hv rfl w, fun w => rturn_is v' n' _ (by omega) hv rfl w⟩
  · exact ⟨0, 2, fun w => turn_none v n hf w, fun w => rturn_none v n hf w⟩

/-- Two numbers are answered, whatever slice reads the bytes. -/
def Reads2 (f : FuncId) (bs : List Nat) (n : Int) (more : List Value) (x y : Int) : Prop :=
  ∀ (s : Value) (w : World), Sl w s bs → Calls Try.prog f (Value.agg #[s, .int .i64 n] :: more).toArray w fun e w' => e = .returned (.tuple #[.int .i64 x, .int .i64 y]) ∧ Below w.heap.size w w'

/-- The bits of a row that is right. -/
theorem right_bits {bs : List Nat} {n : Int} (h : 0 ≤ n ∧ Bs.right bs n.toNat) (h8 : ∀ x ∈ bs, x < 256) : ∃ l : List Bool, Bs.pack l = bs ∧ n = (l.length : Int) := by
  refine ⟨Bs.bitsFrom bs n.toNat, Bs.pack_bitsFrom bs _ h.2 h8, ?_⟩
  rw [Bs.bitsFrom_length]
  omega

theorem right_room {bs : List Nat} {n : Int} (h : 0 ≤ n ∧ Bs.right bs n.toNat) : n ≤ 8 * bs.length := by
  have := h.2.1
  omega

theorem get_pair (bs : List Nat) (n p k : Int) (h8 : ∀ x ∈ bs, x < 256) (hl : bs.length ≤ 281474976710656) (hn : n ≤ 9223372036854775807) :
    ∃ x c : Int, Reads2 20 bs n [.int .i64 p, .int .i64 k] x c ∧ Reads2 21 bs n [.int .i64 p, .int .i64 k] x c := by
  by_cases hr : 0 ≤ n ∧ Bs.right bs n.toNat
  · have hroom := right_room hr
    obtain ⟨l, hp, hnl⟩ := right_bits hr h8
    have hR : Bs.right bs l.length := by rw [← hp]; exact Bs.pack_right l
    subst hnl
    by_cases hb : k < 0 ∨ 32 < k ∨ p < 0 ∨ (l.length : Int) < p
    · exact ⟨0, 2, fun s w hs => get_args s bs l.length p k w hs (by omega) hR hb, fun s w hs => rget_args s bs l.length p k w hs (by omega) hR hb⟩
    · obtain ⟨k', rfl⟩ := Int.eq_ofNat_of_zero_le (show 0 ≤ k by omega)
      obtain ⟨p', rfl⟩ := Int.eq_ofNat_of_zero_le (show 0 ≤ p by omega)
      by_cases hs : l.length - p' < k'
      · exact ⟨0, 4, fun s w h => get_short s bs l.length p' k' w h (by omega) hR (by omega) (by omega) hs, fun s w h => rget_short s bs l.length p' k' w h (by omega) hR (by omega) (by omega) hs⟩
      · exact ⟨_, 0, fun s w h => get_ok s l l.length p' k' w (hp ▸ h) rfl (by omega) (by omega) (by omega), fun s w h => rget_ok s l l.length p' k' w (hp ▸ h) rfl (by omega) (by omega) (by omega)⟩
  · exact ⟨0, 2, fun s w hs => get_check s bs n p k w hs hn hr, fun s w hs => rget_check s bs n p k w hs hn hr⟩

theorem Sl.facts {w : World} {s : Value} {bs : List Nat} (h : Sl w s bs) : (∀ x ∈ bs, x < 256) ∧ bs.length ≤ 281474976710656 := by
  obtain ⟨a, len, cap, _, h1, h2, _, h4, _⟩ := h
  exact ⟨h4, by omega⟩

/-- Check's two answers. -/
theorem check_pair (bs : List Nat) (n : Int) (hn : n ≤ 9223372036854775807) :
    ∃ c : Int, (∀ (s : Value) (w : World), Sl w s bs → Calls Try.prog 15 #[.agg #[s, .int .i64 n]] w fun e w' => e = .returned (.int .i64 c) ∧ Below w.heap.size w w') ∧
      (∀ (s : Value) (w : World), Sl w s bs → Calls Try.prog 16 #[.agg #[s, .int .i64 n]] w fun e w' => e = .returned (.int .i64 c) ∧ Below w.heap.size w w') := by
  by_cases hr : 0 ≤ n ∧ Bs.right bs n.toNat
  · obtain ⟨N, rfl⟩ := Int.eq_ofNat_of_zero_le hr.1
    exact ⟨0, fun s w hs => check_ok s bs N w hs (by omega) hr.2, fun s w hs => rcheck_is s bs N true w hs (by omega) (by show _ ↔ _; simpa using hr)⟩
  · exact ⟨2, fun s w hs => check_bad s bs n w hs hn hr, fun s w hs => rcheck_is s bs n false w hs hn (by show _ ↔ _; simpa using hr)⟩

/-- The memory of an answer that may be written over: none, or a block of its own. -/
def Fresh (B : Nat) (w : World) (a : Option Addr) (m : Nat) (bs : List Nat) : Prop := (a = none ∧ m = 0) ∨ ∃ g, a = some ⟨g, 0, none⟩ ∧ m = bs.length ∧ B ≤ g ∧ Has w g (bytesObj bs)

/-- A row and an error are answered; the row lies in memory of its own. -/
def Rows1 (w : World) (bs : List Nat) (n c : Int) (e : Ending) (w' : World) : Prop :=
  ∃ a m cap, e = .returned (.tuple #[.agg #[.slice a m cap, .int .i64 n], .int .i64 c]) ∧ Sl w' (.slice a m cap) bs ∧ Fresh w.heap.size w' a m bs ∧ Below w.heap.size w w'

/-- A row and an error are answered. -/
def Rows0 (w : World) (bs : List Nat) (n c : Int) (e : Ending) (w' : World) : Prop :=
  ∃ a m cap, e = .returned (.tuple #[.agg #[.slice a m cap, .int .i64 n], .int .i64 c]) ∧ Sl w' (.slice a m cap) bs ∧ Below w.heap.size w w'

theorem NoRow.rows1 {w : World} {c : Int} {e : Ending} {w' : World} (h : NoRow w c e w') : Rows1 w [] 0 c e w' :=
  ⟨none, 0, 0, h.1, Sl.nil _, Or.inl ⟨rfl, rfl⟩, h.2⟩
theorem NoRow.rows0 {w : World} {c : Int} {e : Ending} {w' : World} (h : NoRow w c e w') : Rows0 w [] 0 c e w' :=
  ⟨none, 0, 0, h.1, Sl.nil _, h.2⟩
theorem RowPost.rows1 {w : World} {l : List Bool} {e : Ending} {w' : World} (h : RowPost w l e w') (hl : l.length ≤ 2251799813685248) : Rows1 w (Bs.pack l) l.length 0 e w' := by
  obtain ⟨g, m, he, hm, hg, hh, hb⟩ := h
  exact ⟨some ⟨g, 0, none⟩, m, m, he, Sl.has hh (Bs.pack_lt _) (by rw [Bs.pack_length]; omega) m m (by rw [Bs.pack_length]; exact hm), Or.inr ⟨g, rfl, by rw [Bs.pack_length]; exact hm, hg, hh⟩, hb⟩
theorem RowOwn.rows0 {w : World} {l : List Bool} {e : Ending} {w' : World} (h : RowOwn w l e w') (hl : l.length ≤ 2251799813685248) : Rows0 w (Bs.pack l) l.length 0 e w' := by
  obtain ⟨a, n, cap, he, hr, hb⟩ := h
  exact ⟨a, n, cap, he, hr.sl hl, hb⟩

theorem put_pair (bs : List Nat) (n v k : Int) (h8 : ∀ x ∈ bs, x < 256) (hl : bs.length ≤ 140737488351232) (hn : n ≤ 9223372036854775807) :
    ∃ (bs' : List Nat) (n' c : Int), (∀ (s : Value) (w : World), Sl w s bs → Calls Try.prog 12 #[.agg #[s, .int .i64 n], .int .i64 v, .int .i64 k] w (Rows1 w bs' n' c)) ∧
      (∀ (s : Value) (w : World), Sl w s bs → Calls Try.prog 13 #[.agg #[s, .int .i64 n], .int .i64 v, .int .i64 k] w (Rows0 w bs' n' c)) := by
  by_cases hr : 0 ≤ n ∧ Bs.right bs n.toNat
  · have hroom := right_room hr
    obtain ⟨l, hp, hnl⟩ := right_bits hr h8
    have hR : Bs.right bs l.length := by rw [← hp]; exact Bs.pack_right l
    subst hnl
    rcases fit_cases v k 32 with ⟨v', k', rfl, rfl, hk, hv⟩ | hf
    · have hlen : (l ++ Bs.bitsOf v' k').length ≤ 2251799813685248 := by rw [List.length_append, Bs.bitsOf_length]; omega
      refine ⟨Bs.pack (l ++ Bs.bitsOf v' k'), ((l ++ Bs.bitsOf v' k').length : Int), 0, fun s w hs => ?_, fun s w hs => ?_⟩
      · exact (put_ok s l v' k' w (hp ▸ hs) (by show _ ≤ _; omega) (by omega) hv l.length rfl).mono fun e w' h => h.rows1 hlen
      · exact (rput_ok s l v' k' w (hp ▸ hs) (by omega) hv l.length rfl (by omega)).mono fun e w' h => h.rows0 hlen
    · exact ⟨[], 0, 2, fun s w hs => (put_fit s bs l.length v k w hs (by omega) hR hf).mono fun e w' h => h.rows1, fun s w hs => (rput_fit s bs l.length v k w hs (by omega) hR hf).mono fun e w' h => h.rows0⟩
  · exact ⟨[], 0, 2, fun s w hs => (put_check s bs n v k w hs hn hr).mono fun e w' h => h.rows1, fun s w hs => (rput_right s bs n v k w hs hn hr).mono fun e w' h => h.rows0⟩

end Go.Proofs.Ytcehdngdkfoioaa
