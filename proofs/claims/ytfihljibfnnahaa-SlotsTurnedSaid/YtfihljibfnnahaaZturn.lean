/- SlotsTurned, plain: a disk whose header, or whose bytes, are others in one byte is refused. -/
import Derived.Test.YtfihljibfnnahaaZback

namespace Go.Proofs.Ytfihljibfnnahaa
set_option maxRecDepth 100000
open Go.RowKit

namespace Ek
/-- A whole sector, written to a disk with nothing loose, is read. -/
theorem now_put {d d' : Dk} (hl : d.loose = []) {j : Nat} {r : List Nat} (h1 : d'.loose = d.loose ++ [(j, r)]) (h2 : d'.sure = d.sure) (i : Nat) : now d' i = if i = j then r else now d i := by
  unfold now lastOf
  rw [h1, h2, hl, List.nil_append]
  by_cases h : i = j
  · subst h; simp [lastTo]
  · have : ¬ j = i := fun e => h e.symm
    simp [h, this, lastTo]
end Ek

namespace Sk
theorem secs_apart {f f' : Nat → List Nat} {a j : Nat} (ho : ∀ i, i ≠ a + j → f' i = f i) : ∀ K, K ≤ j → secs f' a K = secs f a K := fun K hK => secs_same fun i h1 h2 => ho i (by omega)
theorem secs_set {f f' : Nat → List Nat} {a j r v : Nat} (hf : ∀ i, (f i).length = 512) (hj : f' (a + j) = (f (a + j)).set r v) (ho : ∀ i, i ≠ a + j → f' i = f i) (hr : r < 512) : ∀ K, j < K → secs f' a K = (secs f a K).set (512 * j + r) v
  | 0, h => absurd h (by omega)
  | K + 1, h => by
    show secs f' a K ++ f' (a + K) = (secs f a K ++ f (a + K)).set _ v
    have hl := secs_length f a K hf
    by_cases hk : j < K
    · rw [secs_set hf hj ho hr K hk, ho (a + K) (by omega), List.set_append_left _ _ (by rw [hl]; omega)]
    · have e : K = j := by omega
      subst e
      rw [secs_apart ho K (Nat.le_refl _), hj, List.set_append_right _ _ (by rw [hl]; omega), hl]
      congr 2; omega
theorem bytes_set {n : Nat} {f f' : Nat → List Nat} {slot size k v : Nat} (hf : ∀ i, (f i).length = 512) (hk : k < size) (hj : f' (front n slot + k / 512) = (f (front n slot + k / 512)).set (k % 512) v) (ho : ∀ i, i ≠ front n slot + k / 512 → f' i = f i) : bytes n f' slot size = (bytes n f slot size).set k v := by
  unfold bytes
  rw [secs_set hf hj ho (by omega) _ (by omega), List.take_set]
  congr 1; omega
theorem secs_at (f : Nat → List Nat) (a : Nat) (hf : ∀ i, (f i).length = 512) : ∀ (K k : Nat), k / 512 < K → (secs f a K)[k]? = (f (a + k / 512))[k % 512]?
  | 0, k, h => absurd h (by omega)
  | K + 1, k, h => by
    show (secs f a K ++ f (a + K))[k]? = _
    have hl := secs_length f a K hf
    by_cases hk : k / 512 < K
    · rw [List.getElem?_append_left (by rw [hl]; omega), secs_at f a hf K k hk]
    · have e : k / 512 = K := by omega
      rw [List.getElem?_append_right (by rw [hl]; omega), hl, ← e]
      congr 1; omega
/-- What a header promises that is not so. -/
theorem turned_load {d : Ek.Dk} (hn : 3 ≤ d.n) (hd : d.dark = false) {s : St} (hs : Fits s) (h0 : Ek.now d 0 = header s) (hsum : Cr.sum 0 (bytes d.n (Ek.now d) s.slot s.size) ≠ s.sum) : loadE d = 15 := by
  have e : says d = s := by unfold says; rw [h0, told_header hs]
  unfold loadE
  rw [if_neg (by omega), if_neg (by simp [hd]), e]
  split
  · rfl
  · rw [if_pos]
    exact hsum
theorem wrong_load {d : Ek.Dk} (hn : 3 ≤ d.n) (hd : d.dark = false) (h : ¬ Right (Ek.now d 0)) : loadE d = 15 := by
  unfold loadE
  rw [if_neg (by omega), if_neg (by simp [hd]), if_pos (Or.inl h)]
end Sk
end Go.Proofs.Ytfihljibfnnahaa
