/- The document's ReadLocal and ReadCentral tell rdL and rdC. -/
import Derived.Test.YtillckjohlbaiaaNrrl
import Derived.Test.YtillckjohlbaiaaNrrc

namespace Go.Proofs.Ytillckjohlbaiaa
set_option maxRecDepth 100000
open Go.RowKit

theorem mbH_mbB (x1 x2 x3 x9 x10 x11 x12 : Int) : mbH x1 x2 x3 x9 x10 x11 x12 = ((decide (x1 ≤ 20) && ((x2 == 0) && (okM x3 && decide (0 < x9)))) && ((x10 == 0) && ((x11 == 0) && (x12 == 0)))) := by
  unfold mbH
  simp only [Bool.and_assoc]
theorem strB_len (l : List Nat) : (strB l).size = l.length := strB_size l

theorem rreadLocal_any (a : Option Addr) (len cap : Nat) (bs : List Nat) (i : Int) (hc : len ≤ cap) (w : World) (hs : Sl w (.slice a len cap) bs) :
    Calls Try.prog 9 #[.slice a len cap, .int .i64 i] w fun e w' => e = .returned (Rd.val (rdL bs i)) ∧ Below w.heap.size w w' := by
  have hl := hs.len.1
  have hz := hs.len.2.1
  by_cases h0 : i < 0 ∨ (len : Int) < i
  · have hp : pe bs.length i 30 = 2 := by unfold pe; rw [← hl, if_pos h0]
    unfold rdL
    rw [hp, if_pos (by decide)]
    exact rrl_out a len cap i h0 w
  · obtain ⟨k, rfl⟩ : ∃ k : Nat, i = (k : Int) := ⟨i.toNat, by omega⟩
    by_cases h1 : len < k + 30
    · have hp : pe bs.length (k : Int) 30 = 4 := by unfold pe; rw [← hl, if_neg h0, if_pos (by omega)]
      unfold rdL
      rw [hp, if_pos (by decide)]
      exact rrl_short a len cap k hz (by omega) h1 w
    · have hp : pe bs.length (k : Int) 30 = 0 := by unfold pe; rw [← hl, if_neg h0, if_neg (by omega)]
      obtain ⟨m, hm⟩ : ∃ m, len = k + m := ⟨len - k, by omega⟩
      obtain ⟨c, hcm⟩ : ∃ c, cap = k + c := ⟨cap - k, by omega⟩
      unfold rdL
      rw [hp, if_neg (by decide), Int.toNat_natCast]
      by_cases h2 : (bs.drop k).take 4 ≠ [80, 75, 3, 4]
      · rw [if_pos h2]
        exact rrl_mark a len cap k m c bs hm hcm (by omega) (by omega) w hs h2
      · rw [if_neg h2]
        have h2' := Decidable.not_not.1 h2
        have hmc : m ≤ c := by omega
        have hx := drop_sl hs k m c hm (by omega)
        have hxl := hx.len.1
        have h16 := g2_lt (xs := (bs.drop k)) hx.bytes 26
        have Z : ∀ (q : Bool), (g2 (bs.drop k) 28 == 0) = q → ∀ (W : World) (g : Nat), Sl W (.slice (Option.map (fun x => x.add k) a) m c) (bs.drop k) → Has W g (.cells #[.int .i64 28] 3 (0, 0)) → Calls Try.prog 40 #[(.slice (Option.map (fun x => x.add k) a) m c), .slice (some ⟨g, 0, none⟩) 1 1] W fun e w' => e = .returned (.bool q) ∧ Below W.heap.size W w' := fun q hq W g h1 h3 => by
          rw [← hq]; exact zeroL_any _ m c _ (by omega) hmc W g h1 h3
        have B : ∀ (r : Rd), bdR (bs.drop k) 4 30 m = r → ∀ (W : World), Sl W (.slice (Option.map (fun x => x.add k) a) m c) (bs.drop k) → Calls Try.prog 41 #[(.slice (Option.map (fun x => x.add k) a) m c), .int .i64 4, .int .i64 30] W fun e w' => e = .returned (.tuple #[rv (strB r.name) r.m r.s r.p r.z r.a, .int .i64 r.err]) ∧ Below W.heap.size W w' := fun r hr W h1 => by
          rw [← hr]; exact body4_any _ m c _ (by omega) hmc W h1
        have e0 : bs.drop (k + 30) = (bs.drop k).drop 30 := by rw [List.drop_drop]
        have e2 : mbH (g2 (bs.drop k) 4) (g2 (bs.drop k) 6) (g2 (bs.drop k) 8) (g2 (bs.drop k) 26) (g2 (bs.drop k) 28) 0 0 = (mbB (bs.drop k) 4 && ((g2 (bs.drop k) 28 == 0) && (((0 : Int) == 0) && ((0 : Int) == 0)))) := mbH_mbB _ _ _ _ _ _ _
        rw [e0, e2]
        by_cases z : (g2 (bs.drop k) 28 == 0) = true
        · have ez : ((g2 (bs.drop k) 28 == 0) && (((0 : Int) == 0) && ((0 : Int) == 0))) = true := by rw [z]; rfl
          rw [ez, Bool.and_true]
          by_cases hb : mbB (bs.drop k) 4 = false
          · rw [if_pos hb]
            exact rrl_bad a len cap k m c bs hm hcm hmc (by omega) w hs h2' (Z _ z) 15 (by decide) (B (rdBad 15) (by unfold bdR; rw [if_pos hb]))
          · rw [if_neg hb]
            by_cases hq : m < 30 + (g2 (bs.drop k) 26).toNat
            · rw [if_pos (by omega)]
              exact rrl_bad a len cap k m c bs hm hcm hmc (by omega) w hs h2' (Z _ z) 4 (by decide) (B (rdBad 4) (by unfold bdR; rw [if_neg hb, if_pos hq]))
            · rw [if_neg (by omega)]
              have hsz : (strB (((bs.drop k).drop 30).take (g2 (bs.drop k) 26).toNat)).size = (g2 (bs.drop k) 26).toNat := by
                rw [strB_len, List.length_take, List.length_drop]; omega
              exact rrl_ok a len cap k m c bs hm hcm hmc (by omega) w hs h2' (Z _ z) _ _ _ _ _ (k + 30 + (g2 (bs.drop k) 26).toNat) (by rw [hsz]; omega) (by rw [hsz]) (B ⟨0, ((bs.drop k).drop 30).take (g2 (bs.drop k) 26).toNat, g2 (bs.drop k) 8, g4 (bs.drop k) 14, g4 (bs.drop k) 18, g4 (bs.drop k) 22, 0, 0⟩ (by unfold bdR; rw [if_neg hb, if_neg hq]))
        · have z : (g2 (bs.drop k) 28 == 0) = false := by simpa using z
          have ez : ((g2 (bs.drop k) 28 == 0) && (((0 : Int) == 0) && ((0 : Int) == 0))) = false := by rw [z]; rfl
          rw [ez, Bool.and_false, if_pos rfl]
          exact rrl_zero a len cap k m c bs hm hcm hmc (by omega) w hs h2' (Z _ z)

theorem rreadCentral_any (a : Option Addr) (len cap : Nat) (bs : List Nat) (i : Int) (hc : len ≤ cap) (w : World) (hs : Sl w (.slice a len cap) bs) :
    Calls Try.prog 11 #[.slice a len cap, .int .i64 i] w fun e w' => e = .returned (Rd.val (rdC bs i)) ∧ Below w.heap.size w w' := by
  have hl := hs.len.1
  have hz := hs.len.2.1
  by_cases h0 : i < 0 ∨ (len : Int) < i
  · have hp : pe bs.length i 46 = 2 := by unfold pe; rw [← hl, if_pos h0]
    unfold rdC
    rw [hp, if_pos (by decide)]
    exact rrc_out a len cap i h0 w
  · obtain ⟨k, rfl⟩ : ∃ k : Nat, i = (k : Int) := ⟨i.toNat, by omega⟩
    by_cases h1 : len < k + 46
    · have hp : pe bs.length (k : Int) 46 = 4 := by unfold pe; rw [← hl, if_neg h0, if_pos (by omega)]
      unfold rdC
      rw [hp, if_pos (by decide)]
      exact rrc_short a len cap k hz (by omega) h1 w
    · have hp : pe bs.length (k : Int) 46 = 0 := by unfold pe; rw [← hl, if_neg h0, if_neg (by omega)]
      obtain ⟨m, hm⟩ : ∃ m, len = k + m := ⟨len - k, by omega⟩
      obtain ⟨c, hcm⟩ : ∃ c, cap = k + c := ⟨cap - k, by omega⟩
      unfold rdC
      rw [hp, if_neg (by decide), Int.toNat_natCast]
      by_cases h2 : (bs.drop k).take 4 ≠ [80, 75, 1, 2]
      · rw [if_pos h2]
        exact rrc_mark a len cap k m c bs hm hcm (by omega) (by omega) w hs h2
      · rw [if_neg h2]
        have h2' := Decidable.not_not.1 h2
        have hmc : m ≤ c := by omega
        have hx := drop_sl hs k m c hm (by omega)
        have hxl := hx.len.1
        have h16 := g2_lt (xs := (bs.drop k)) hx.bytes 28
        have Z : ∀ (q : Bool), ((g2 (bs.drop k) 30 == 0) && ((g2 (bs.drop k) 32 == 0) && (g2 (bs.drop k) 34 == 0))) = q → ∀ (W : World) (g : Nat), Sl W (.slice (Option.map (fun x => x.add k) a) m c) (bs.drop k) → Has W g (.cells #[.int .i64 30, .int .i64 32, .int .i64 34] 3 (0, 0)) → Calls Try.prog 40 #[(.slice (Option.map (fun x => x.add k) a) m c), .slice (some ⟨g, 0, none⟩) 3 3] W fun e w' => e = .returned (.bool q) ∧ Below W.heap.size W w' := fun q hq W g h1 h3 => by
          rw [← hq]; exact zeroC_any _ m c _ (by omega) hmc W g h1 h3
        have B : ∀ (r : Rd), bdR (bs.drop k) 6 46 m = r → ∀ (W : World), Sl W (.slice (Option.map (fun x => x.add k) a) m c) (bs.drop k) → Calls Try.prog 41 #[(.slice (Option.map (fun x => x.add k) a) m c), .int .i64 6, .int .i64 46] W fun e w' => e = .returned (.tuple #[rv (strB r.name) r.m r.s r.p r.z r.a, .int .i64 r.err]) ∧ Below W.heap.size W w' := fun r hr W h1 => by
          rw [← hr]; exact body6_any _ m c _ (by omega) hmc W h1
        have e0 : bs.drop (k + 46) = (bs.drop k).drop 46 := by rw [List.drop_drop]
        have e2 : mbH (g2 (bs.drop k) 6) (g2 (bs.drop k) 8) (g2 (bs.drop k) 10) (g2 (bs.drop k) 28) (g2 (bs.drop k) 30) (g2 (bs.drop k) 32) (g2 (bs.drop k) 34) = (mbB (bs.drop k) 6 && ((g2 (bs.drop k) 30 == 0) && ((g2 (bs.drop k) 32 == 0) && (g2 (bs.drop k) 34 == 0)))) := mbH_mbB _ _ _ _ _ _ _
        rw [e0, e2]
        by_cases z : ((g2 (bs.drop k) 30 == 0) && ((g2 (bs.drop k) 32 == 0) && (g2 (bs.drop k) 34 == 0))) = true
        · have ez : ((g2 (bs.drop k) 30 == 0) && ((g2 (bs.drop k) 32 == 0) && (g2 (bs.drop k) 34 == 0))) = true := by exact z
          rw [ez, Bool.and_true]
          by_cases hb : mbB (bs.drop k) 6 = false
          · rw [if_pos hb]
            exact rrc_bad a len cap k m c bs hm hcm hmc (by omega) w hs h2' (Z _ z) 15 (by decide) (B (rdBad 15) (by unfold bdR; rw [if_pos hb]))
          · rw [if_neg hb]
            by_cases hq : m < 46 + (g2 (bs.drop k) 28).toNat
            · rw [if_pos (by omega)]
              exact rrc_bad a len cap k m c bs hm hcm hmc (by omega) w hs h2' (Z _ z) 4 (by decide) (B (rdBad 4) (by unfold bdR; rw [if_neg hb, if_pos hq]))
            · rw [if_neg (by omega)]
              have hsz : (strB (((bs.drop k).drop 46).take (g2 (bs.drop k) 28).toNat)).size = (g2 (bs.drop k) 28).toNat := by
                rw [strB_len, List.length_take, List.length_drop]; omega
              exact rrc_ok a len cap k m c bs hm hcm hmc (by omega) w hs h2' (Z _ z) _ _ _ _ _ (k + 46 + (g2 (bs.drop k) 28).toNat) (by rw [hsz]; omega) (by rw [hsz]) (B ⟨0, ((bs.drop k).drop 46).take (g2 (bs.drop k) 28).toNat, g2 (bs.drop k) 10, g4 (bs.drop k) 16, g4 (bs.drop k) 20, g4 (bs.drop k) 24, 0, 0⟩ (by unfold bdR; rw [if_neg hb, if_neg hq])) (g4 (bs.drop k) 42) (fun W h1 => get4_any _ m c _ 42 (by omega) hmc W h1)
        · have z : ((g2 (bs.drop k) 30 == 0) && ((g2 (bs.drop k) 32 == 0) && (g2 (bs.drop k) 34 == 0))) = false := by simpa using z
          have ez : ((g2 (bs.drop k) 30 == 0) && ((g2 (bs.drop k) 32 == 0) && (g2 (bs.drop k) 34 == 0))) = false := by exact z
          rw [ez, Bool.and_false, if_pos rfl]
          exact rrc_zero a len cap k m c bs hm hcm hmc (by omega) w hs h2' (Z _ z)

end Go.Proofs.Ytillckjohlbaiaa
