/- The statement LimitLeast: no row of lengths that a code may have costs less: of up to five symbols, each of which is tried. It holds for all numbers, without a condition. -/
import Derived.Test.YtedbonnejgpjeaaLodo
namespace Go.Proofs.Ytedbonnejgpjeaa
open Go.ChangeShapes Go.WideShapes Go.ChangeAt Go.RowKit

theorem Try.cells5 : Try.prog.cellsOf 38 = 5 := by kernel_rfl
theorem Try.cellsU16 : Try.prog.cellsOf 37 = 1 := by kernel_rfl
theorem five {cs : Array Value} (h : cs.size = 5) : ∃ a b c d e, cs = #[a, b, c, d, e] := by
  obtain ⟨l⟩ := cs
  match l, h with
  | [a, b, c, d, e], _ => exact ⟨a, b, c, d, e, rfl⟩
theorem u16_nat {n : Int} (h : (Lit.int .u16 n).wf = true) : ∃ m : Nat, n = (m : Int) ∧ m < 65536 := by
  have := bounds_u16 h
  exact ⟨n.toNat, by omega, by omega⟩
/-- Five numbers by value, as an argument. -/
theorem u16x5_open {H : Type} {enc : TypeId × Value → H} {W : World} {base : Nat} {v : Value} {d : DataW H} {p : List MemPlace} (hv : Value.okWide Try.prog W .any base 38 v) (h : DataW.Trod enc Try.prog W 0 (fun _ => true) true 38 v d p) :
    ∃ x0 x1 x2 x3 x4 : Nat, v = .agg #[.int .u16 (x0 : Int), .int .u16 (x1 : Int), .int .u16 (x2 : Int), .int .u16 (x3 : Int), .int .u16 (x4 : Int)] ∧ x0 < 65536 ∧ x1 < 65536 ∧ x2 < 65536 ∧ x3 < 65536 ∧ x4 < 65536 := by
  simp only [Value.okWide, Try.underlying38] at hv
  obtain ⟨cs, rfl, hsz, _⟩ := hv
  rw [Try.cells5] at hsz
  obtain ⟨a, b, c, d', e, rfl⟩ := five hsz
  obtain ⟨fuel, hf⟩ := h
  obtain ⟨xs, m, _, _, _, hlen, hx⟩ := DataW.trod_array Try.underlying38 hf
  have key : ∀ (i : Nat) (hi : i < 5) (u : Value), (([a, b, c, d', e] : List Value).drop (i * 1)).take 1 = [u] → ∃ m : Nat, u = .int .u16 (m : Int) ∧ m < 65536 := by
    intro i hi u hu
    have h0 := hx i hi
    rw [Try.cellsU16, List.getElem?_eq_getElem (by omega)] at h0
    rw [show (Value.agg #[a, b, c, d', e]).cells.toList = [a, b, c, d', e] from rfl] at h0
    rw [hu] at h0
    obtain ⟨n, en, _, wn⟩ := DataW.trod_int Try.underlying37 h0
    obtain ⟨m, rfl, hm⟩ := u16_nat wn
    simp at en
    exact ⟨m, en, hm⟩
  obtain ⟨x0, rfl, h0⟩ := key 0 (by omega) a rfl
  obtain ⟨x1, rfl, h1⟩ := key 1 (by omega) b rfl
  obtain ⟨x2, rfl, h2⟩ := key 2 (by omega) c rfl
  obtain ⟨x3, rfl, h3⟩ := key 3 (by omega) d' rfl
  obtain ⟨x4, rfl, h4⟩ := key 4 (by omega) e rfl
  exact ⟨x0, x1, x2, x3, x4, rfl, h0, h1, h2, h3, h4⟩

/-- How often, of so many. -/
def fr (A : List Nat) (k : Nat) : List Nat := (A.take k).map (1 + ·)
def frZ (A : List Nat) (k : Nat) : List Int := (fr A k).map fun (x : Nat) => (x : Int)
theorem fr_length (A : List Nat) (k : Nat) (hk : k ≤ A.length) : (fr A k).length = k := by unfold fr; rw [List.length_map, List.length_take]; omega
theorem fr_succ (A : List Nat) (k x : Nat) (h : A[k]? = some x) : fr A (k + 1) = fr A k ++ [1 + x] := by unfold fr; rw [List.take_add_one, h, List.map_append]; rfl
theorem nat_frZ (A : List Nat) (k : Nat) : nat (frZ A k) = fr A k := by unfold nat frZ; rw [List.map_map]; exact List.map_id'' (fun x => by simp) _
theorem fr_get (A : List Nat) (N i : Nat) (hN : N ≤ A.length) (hi : i < N) : ∃ x, A[i]? = some x ∧ (fr A N)[i]? = some (1 + x) := by
  refine ⟨_, List.getElem?_eq_getElem (by omega), ?_⟩
  unfold fr
  rw [List.getElem?_map, List.getElem?_take_of_lt hi, List.getElem?_eq_getElem (by omega)]; rfl
theorem fr_good (A : List Nat) (N M : Nat) (hA : A.length = 5) (hA2 : ∀ x ∈ A, x < 65536) (hN : 2 ≤ N) (hN5 : N ≤ 5) (hM : 3 ≤ M) (hM4 : M ≤ 4) : Good (frZ A N) (M : Int) := by
  have hl : (frZ A N).length = N := by unfold frZ; rw [List.length_map, fr_length A N (by omega)]
  refine ⟨⟨by omega, by omega, fun i hi => ?_⟩, by omega, ?_⟩
  · rw [hl] at hi
    obtain ⟨x, h1, h2⟩ := fr_get A N i (by omega) hi
    have := hA2 x (List.mem_of_getElem? h1)
    unfold frZ
    rw [List.getElem?_map, h2]
    simp; omega
  · rw [Lm.srt_length, nat_frZ]
    have h1 := Lm.usd_length (fr A N) (fr A N).length
    rw [fr_length A N (by omega)] at h1 ⊢
    have h2 : 2 ^ 3 ≤ 2 ^ (M : Int).toNat := Nat.pow_le_pow_right (by omega) (by omega)
    omega
/-- What a row takes, and costs, of the first k. -/
def tk8 (l : List Nat) (k : Nat) : Nat := Lm.sumTo (fun i => 2 ^ (8 - l[i]?.getD 0)) k
def su8 (f l : List Nat) (k : Nat) : Nat := Lm.sumTo (fun i => f[i]?.getD 0 * l[i]?.getD 0) k

theorem fr_used (A : List Nat) (N : Nat) (hN : N ≤ A.length) : ∀ i, i < N → (fr A N)[i]?.getD 0 ≠ 0 := fun i hi => by
  obtain ⟨x, _, h⟩ := fr_get A N i hN hi
  rw [h]; simp
theorem usd_all (fs : List Nat) (h : ∀ i, i < fs.length → fs[i]?.getD 0 ≠ 0) : ∀ k, k ≤ fs.length → (Lm.usd fs k).length = k := by
  intro k
  induction k with
  | zero => intro _; rfl
  | succ k ih => intro hk; rw [Lm.usd, if_neg (h k (by omega)), List.length_append, ih (by omega)]; rfl

theorem row_least (A : List Nat) (N M : Nat) (hA : A.length = 5) (hA2 : ∀ x ∈ A, x < 65536) (hN : 2 ≤ N) (hN5 : N ≤ 5) (hM : 3 ≤ M) (hM4 : M ≤ 4) (l : List Nat) (hl : l.length = N) (ho : Lm.Ok M l) (ht : tk8 l N ≤ 256) : cst (frZ A N) (M : Int) ≤ su8 (fr A N) l N := by
  have hg := fr_good A N M hA hA2 hN hN5 hM hM4
  have hfl := fr_length A N (by omega)
  have hz : (frZ A N).length = N := by unfold frZ; rw [List.length_map, hfl]
  unfold cst
  rw [if_pos hg, nat_frZ, hz, show (M : Int).toNat = M by simp]
  have hin : ∀ i, i < N → l[i]?.getD 0 ≤ M := fun i hi => by rw [List.getElem?_eq_getElem (by omega)]; exact (ho _ (List.getElem_mem _)).2
  have hb := Lm.best_len (fr A N) M (by omega) (by rw [hfl, usd_all (fr A N) (fun i hi => fr_used A N (by omega) i (by omega)) N (by omega)]; exact hN) (fun i => l[i]?.getD 0) (fun i hi _ => hin i (by omega)) (by
    rw [hfl]
    have e1 : Lm.sumTo (fun i => if (fr A N)[i]?.getD 0 = 0 then 0 else 2 ^ (M - l[i]?.getD 0)) N = Lm.sumTo (fun i => 2 ^ (M - l[i]?.getD 0)) N := Lm.sumTo_congr fun i hi => if_neg (fr_used A N (by omega) i hi)
    rw [e1]
    have e2 : tk8 l N = Lm.sumTo (fun i => 2 ^ (M - l[i]?.getD 0)) N * 2 ^ (8 - M) := by
      rw [← Lm.sumTo_mul]
      exact Lm.sumTo_congr fun i hi => by rw [← Nat.pow_add]; have := hin i hi; congr 1; omega
    have e3 : (256 : Nat) = 2 ^ M * 2 ^ (8 - M) := by rw [← Nat.pow_add, show M + (8 - M) = 8 by omega]
    rw [e2, e3] at ht
    exact Nat.le_of_mul_le_mul_right ht (Nat.two_pow_pos _))
  rw [hfl] at hb
  exact hb

/-- The row that is told. -/
def told (A : List Nat) (N M : Nat) : List Nat := (List.range N).map (Lm.len (fr A N) M)
theorem told_get (A : List Nat) (N M i : Nat) (hi : i < N) : (told A N M)[i]?.getD 0 = Lm.len (fr A N) M i := by simp [told, hi]
theorem told_facts (A : List Nat) (N M : Nat) (hA : A.length = 5) (hA2 : ∀ x ∈ A, x < 65536) (hN : 2 ≤ N) (hN5 : N ≤ 5) (hM : 3 ≤ M) (hM4 : M ≤ 4) : (told A N M).length = N ∧ Lm.Ok M (told A N M) ∧ tk8 (told A N M) N = 256 ∧ su8 (fr A N) (told A N M) N = cst (frZ A N) (M : Int) := by
  have hg := fr_good A N M hA hA2 hN hN5 hM hM4
  have hfl := fr_length A N (by omega)
  have hz : (frZ A N).length = N := by unfold frZ; rw [List.length_map, hfl]
  have hf := hg.2.2
  rw [nat_frZ, show (M : Int).toNat = M by simp] at hf
  have hus := fr_used A N (by omega)
  have hul : (Lm.usd (fr A N) (fr A N).length).length = N := by rw [hfl]; exact usd_all (fr A N) (fun i hi => hus i (by omega)) N (by omega)
  refine ⟨by simp [told], fun x hx => ?_, ?_, ?_⟩
  · obtain ⟨i, hi, rfl⟩ := List.mem_map.1 hx
    rw [List.mem_range] at hi
    exact ⟨Lm.len_used (fr A N) M i (by omega) hf (by omega) (hus i hi), Lm.len_le (fr A N) M (by omega) hf i⟩
  · have hk := Lm.kraft (fr A N) M (by omega) (by rw [Lm.srt_length, hul]; exact hN) hf
    rw [Lm.srt_sum, hfl] at hk
    have e1 : tk8 (told A N M) N = Lm.sumTo (fun i => if (fr A N)[i]?.getD 0 = 0 then 0 else 2 ^ (M - Lm.len (fr A N) M i)) N * 2 ^ (8 - M) := by
      rw [← Lm.sumTo_mul]
      exact Lm.sumTo_congr fun i hi => by
        rw [told_get A N M i hi, if_neg (hus i hi), ← Nat.pow_add]
        have := Lm.len_le (fr A N) M (by omega) hf i
        congr 1; omega
    rw [e1, hk, ← Nat.pow_add, show M + (8 - M) = 8 by omega]
  · have h1 := Lm.cost_len (fr A N) M (by omega) hf
    rw [hfl] at h1
    unfold cst
    rw [if_pos hg, nat_frZ, hz, show (M : Int).toNat = M by simp, ← h1]
    exact Lm.sumTo_congr fun i hi => by rw [told_get A N M i hi]

/-- The row that block C reads. -/
def rdL (w : World) (C N : Nat) : List Nat := (List.range N).map fun i => (intOf ((w.cell? ⟨C, i, none⟩).getD undef)).toNat
theorem rdL_is {w : World} {C N : Nat} {l : List Nat} (h : Bk w C l) (hl : l.length = N) : rdL w C N = l := by
  refine List.ext_getElem (by simp [rdL, hl]) fun i h1 h2 => ?_
  have := (h.2 i _ (List.getElem?_eq_getElem h2)).1
  simp [rdL, this, intOf]

set_option maxHeartbeats 4000000 in
theorem least_in (x0 x1 x2 x3 x4 : Nat) (N M : Nat) (w : World) (h0 : x0 < 65536) (h1 : x1 < 65536) (h2 : x2 < 65536) (h3 : x3 < 65536) (h4 : x4 < 65536) (hN : 2 ≤ N) (hN5 : N ≤ 5) (hM : 3 ≤ M) (hM4 : M ≤ 4) :
    Calls Try.prog 7 #[.agg #[.int .u16 (x0 : Int), .int .u16 (x1 : Int), .int .u16 (x2 : Int), .int .u16 (x3 : Int), .int .u16 (x4 : Int)], .int .i64 (N : Int), .int .i64 (M : Int)] w fun e w' => e = .returned (.bool true) ∧ Below w.heap.size w w' := by
  obtain ⟨A, hAe⟩ : ∃ A : List Nat, A = [x0, x1, x2, x3, x4] := ⟨_, rfl⟩
  have hA : A.length = 5 := by rw [hAe]; rfl
  have hA2 : ∀ x ∈ A, x < 65536 := by rw [hAe]; intro x hx; simp at hx; omega
  have HG := Lib.hid (fr_good A N M hA hA2 hN hN5 hM hM4)
  obtain ⟨u, hu⟩ : ∃ u, u = cst (frZ A N) (M : Int) := ⟨_, rfl⟩
  have HC := Lib.hid (fun (s : Value) (w : World) (h : Zl w s (frZ A N)) => lcost_any (frZ A N) s (M : Int) w h)
  rw [← hu, decide_eq_true HG.out] at HC
  have hub : u ≤ 18554258714400 := by
    have h := told_facts A N M hA hA2 hN hN5 hM hM4
    rw [hu, ← h.2.2.2]
    have h9 := costTo_le (fr A N) (told A N M) N fun i hi => by
      obtain ⟨x, e1, e2⟩ := fr_get A N i (by omega) hi
      have := hA2 x (List.mem_of_getElem? e1)
      rw [e2]
      have e3 : (told A N M)[i]?.getD 0 ≤ M := by rw [List.getElem?_eq_getElem (by rw [h.1]; exact hi)]; exact (h.2.1 _ (List.getElem_mem _)).2
      simp only [Option.getD_some]
      omega
    have h10 : su8 (fr A N) (told A N M) N = costTo (fr A N) (told A N M) N := rfl
    have := Nat.mul_le_mul_right 64424509425 hN5
    omega
  have HL : Hid (∀ l : List Nat, l.length = N → Lm.Ok M l → tk8 l N ≤ 256 → u ≤ su8 (fr A N) l N) := fun l a b c => by rw [hu]; exact row_least A N M hA hA2 hN hN5 hM hM4 l a b c
  have HT : Hid (∃ R : List Nat, R.length = N ∧ Lm.Ok M R ∧ tk8 R N = 256 ∧ su8 (fr A N) R N = u) := by
    have h := told_facts A N M hA hA2 hN hN5 hM hM4
    exact ⟨told A N M, h.1, h.2.1, h.2.2.1, by rw [hu]; exact h.2.2.2⟩
  have HA : Hid (∀ i, i < 5 → ∃ x : Nat, A[i]? = some x ∧ x < 65536 ∧ (#[Value.int .u16 (x0 : Int), .int .u16 (x1 : Int), .int .u16 (x2 : Int), .int .u16 (x3 : Int), .int .u16 (x4 : Int)] : Array Value)[i]? = some (.int .u16 (x : Int))) := fun i hi => by
    rw [hAe]
    have : i = 0 ∨ i = 1 ∨ i = 2 ∨ i = 3 ∨ i = 4 := by omega
    rcases this with rfl | rfl | rfl | rfl | rfl
    · exact ⟨x0, rfl, h0, rfl⟩
    · exact ⟨x1, rfl, h1, rfl⟩
    · exact ⟨x2, rfl, h2, rfl⟩
    · exact ⟨x3, rfl, h3, rfl⟩
    · exact ⟨x4, rfl, h4, rfl⟩
  have HA5 := Lib.hid hA
  have t1 : decide ((N : Int) < 2) = false := by simp; omega
  have t2 : decide (5 < (N : Int)) = false := by simp; omega
  have t3 : decide ((M : Int) < 3) = false := by simp; omega
  have t4 : decide (4 < (M : Int)) = false := by simp; omega
  have HB0 := Lib.hid (Has.new w (.cells #[.int .u16 (x0 : Int), .int .u16 (x1 : Int), .int .u16 (x2 : Int), .int .u16 (x3 : Int), .int .u16 (x4 : Int)] 38))
  have BA0 := Lib.hid (below1 w (.cells #[.int .u16 (x0 : Int), .int .u16 (x1 : Int), .int .u16 (x2 : Int), .int .u16 (x3 : Int), .int .u16 (x4 : Int)] 38))
  clear hAe hA hA2 hu h0 h1 h2 h3 h4
  go_enter Try.func7, Try.ntmps7
  go_wp2_with fail
  obtain ⟨W0, hW0⟩ : ∃ W0, W0 = w.alloc (.cells #[.int .u16 (x0 : Int), .int .u16 (x1 : Int), .int .u16 (x2 : Int), .int .u16 (x3 : Int), .int .u16 (x4 : Int)] 38) := ⟨_, rfl⟩
  have HB : Hid (Has W0 w.heap.size (.cells #[.int .u16 (x0 : Int), .int .u16 (x1 : Int), .int .u16 (x2 : Int), .int .u16 (x3 : Int), .int .u16 (x4 : Int)] 38)) := by show Has _ _ _; rw [hW0]; exact HB0.out
  have BA : Hid (Below w.heap.size w W0) := by show Below _ _ _; rw [hW0]; exact BA0.out
  have hsz0 : W0.heap.size = w.heap.size + 1 := by rw [hW0]; simp
  rw [← hW0]
  clear hW0 HB0 BA0 t1 t2 t3 t4
  go_loopw [7, 8, 9] (fun s7 s8 s9 wr => ∃ (k c1 c2 : Nat) (v1 v2 : Option Addr), k ≤ N ∧ s9 = .int .i64 (k : Int) ∧ s7 = .slice v1 k c1 ∧ s8 = .slice v2 k c2 ∧ Hid (Io2 W0.heap.size wr (.slice v1 k c1) (.slice v2 k c2) (fr A k) (List.replicate k 1)) ∧ Hid (Below W0.heap.size W0 wr)) (fun _ _ s _ => N - (intOf s).toNat)
  case atStart => exact ⟨0, 0, 0, none, none, Nat.zero_le _, rfl, rfl, rfl, ⟨Io.nil _ _, Io.nil _ _, fun b h => by simp [Value.ownBlock] at h⟩, Below.refl _ _⟩
  case round =>
    obtain ⟨k, c1, c2, v1, v2, hk, rfl, rfl, rfl, KI, KB⟩ := hrel
    by_cases hlt : k < N
    · obtain ⟨x, hx, hx2, hxc⟩ := HA.out k (by omega)
      have hbl : w.heap.size < W0.heap.size := by omega
      have gx : wr.cell? ⟨w.heap.size, k, none⟩ = some (.int .u16 (x : Int)) := (KB.out.cell (p := ⟨w.heap.size, k, none⟩) hbl).trans (by rw [HB.out.cell]; exact hxc)
      have hfl : (fr A k).length = k := fr_length A k (by have := HA5.out; omega)
      obtain ⟨g', cap', w2, hrun, hO, hB2⟩ := Io2.more KI.out KB.out (1 + x) (by rw [hfl]; omega)
      rw [hfl] at hrun hO
      rw [← fr_succ A k x hx] at hO
      obtain ⟨g3, cap3, w3, hrun3, hO3, hB3⟩ := Io2.more hO.out.swap hB2 1 (by rw [List.length_replicate]; omega)
      rw [List.length_replicate] at hrun3 hO3
      have KI3 : Hid (Io2 W0.heap.size w3 (.slice (some ⟨g', 0, none⟩) (k + 1) cap') (.slice (some ⟨g3, 0, none⟩) (k + 1) cap3) (fr A (k + 1)) (List.replicate (k + 1) 1)) := by
        have h := hO3.out.swap
        rw [← List.replicate_succ'] at h
        exact h
      have R1 : Hid ((Builtin.append_ #[22, 22] 22 #[.slice v1 k c1, .slice (some ⟨wr.heap.size, 0, none⟩) 1 1]).run Try.prog (wr.alloc (.cells #[.int .i64 (1 + (x : Int))] 3)) = .ok (.slice (some ⟨g', 0, none⟩) (k + 1) cap') w2) := by
        show _ = _
        rw [show (1 + (x : Int)) = ((1 + x : Nat) : Int) by omega]; exact hrun
      have R3 : Hid ((Builtin.append_ #[22, 22] 22 #[.slice v2 k c2, .slice (some ⟨w2.heap.size, 0, none⟩) 1 1]).run Try.prog (w2.alloc (.cells #[.int .i64 1] 3)) = .ok (.slice (some ⟨g3, 0, none⟩) (k + 1) cap3) w3) := hrun3
      have KB3 := Lib.hid hB3
      clear hx hxc hfl hrun hO hB2 hrun3 hO3 hB3 KI KB
      go_wp2_with (at_builtin; first | (refine wpList_append_known rfl (.tmp 36) (.tmp 42) 22 rfl _ _ _ _ rfl rfl R1.out ?_) | (refine wpList_append_known rfl (.tmp 44) (.tmp 45) 22 rfl _ _ _ _ rfl rfl R3.out ?_))
      go_roundw
      case rel => exact ⟨k + 1, _, _, _, _, by omega, by go_num, rfl, rfl, KI3, KB3⟩
      case measure => simp [intOf]; omega
    · obtain rfl : k = N := by omega
      have hfl : (fr A k).length = k := fr_length A k (by have := HA5.out; omega)
      obtain ⟨hf, hl, hd⟩ := KI.out
      have hzl : Zl wr (.slice v1 k c1) (frZ A k) := by
        have h := Io.nl hf (by omega)
        obtain ⟨a', len', cap', e, e1, e2, e3, e4, e5⟩ := h
        cases e
        refine ⟨_, k, c1, rfl, by unfold frZ; rw [List.length_map, hfl], by omega, e4, fun h0 => ?_⟩
        obtain ⟨b, off, rfl, hlt, hc⟩ := e5 h0
        refine ⟨b, off, rfl, hlt, fun i hi => ?_⟩
        have e : (fr A k)[i]? = some ((fr A k)[i]?.getD 0) := by rw [List.getElem?_eq_getElem (by omega)]; rfl
        rw [hc i _ e]
        unfold frZ
        rw [List.getElem?_map, e]; rfl
      obtain ⟨C, cc2, e2⟩ : ∃ C c, (Value.slice v2 k c2) = .slice (some ⟨C, 0, none⟩) k c := by
        have hl' : wr.ownsRow W0.heap.size 3 1 (.slice v2 k c2) (List.replicate k 1).length (vi (List.replicate k 1)) := hl
        rcases hl'.2 with ⟨_, e⟩ | ⟨g, cap, cur, e, _⟩
        · rw [List.length_replicate] at e; omega
        · rw [List.length_replicate] at e; exact ⟨g, cap, e⟩
      cases e2
      have hbk : Bk wr C (List.replicate k 1) := by
        have hl' : wr.ownsRow W0.heap.size 3 1 (.slice (some ⟨C, 0, none⟩) k c2) (List.replicate k 1).length (vi (List.replicate k 1)) := hl
        rw [List.length_replicate] at hl'
        refine ⟨(World.ownsRow.lt hl' C rfl).2, fun i x hi => ⟨?_, hl'.frozenAt i⟩⟩
        have hil := (List.getElem?_eq_some_iff.1 hi).1
        rw [List.length_replicate] at hil
        rw [hl'.cellAt i (by omega)]
        rw [List.getElem?_replicate, if_pos hil] at hi
        cases hi
        simp [vi, hil]
      obtain ⟨F, cf, e3⟩ : ∃ F c, (Value.slice v1 k c1) = .slice (some ⟨F, 0, none⟩) k c := by
        have hf' : wr.ownsRow W0.heap.size 3 1 (.slice v1 k c1) (fr A k).length (vi (fr A k)) := hf
        rcases hf'.2 with ⟨_, e⟩ | ⟨g, cap, cur, e, _⟩
        · rw [hfl] at e; omega
        · rw [hfl] at e; exact ⟨g, cap, e⟩
      cases e3
      have hFC : F ≠ C := fun e => hd F rfl (by rw [e]; rfl)
      have HFC : Hid (∀ (i x : Nat), (fr A k)[i]? = some x → wr.cell? ⟨F, i, none⟩ = some (.int .i64 (x : Int))) := fun i x hi => by
        have hf' : wr.ownsRow W0.heap.size 3 1 (.slice (some ⟨F, 0, none⟩) k c1) (fr A k).length (vi (fr A k)) := hf
        rw [hfl] at hf'
        have hil := (List.getElem?_eq_some_iff.1 hi).1
        rw [hfl] at hil
        rw [hf'.cellAt i (by omega)]
        simp [vi, hi]
      have hFlt : F < wr.heap.size := (World.ownsRow.lt hf F rfl).2
      have hCge : W0.heap.size ≤ C := (World.ownsRow.lt hl C rfl).1
      have HBK := Lib.hid hbk
      have HC2 := HC.out _ wr hzl
      have KB2 := KB
      have HCG := Lib.hid hCge
      have hFN := Lib.hid hFC
      have HFL := Lib.hid hfl
      clear hf hl hd hbk hfl hzl KI HC hCge hFC KB
      go_wp2_with fail
      refine HC2.mono ?_
      clear HC2
      rintro e w4 ⟨rfl, hb4⟩
      have KB4 := Lib.hid (KB2.out.trans (hb4.mono KB2.out.size))
      have HF4 : Hid (∀ (i x : Nat), (fr A k)[i]? = some x → w4.cell? ⟨F, i, none⟩ = some (.int .i64 (x : Int))) := fun i x hi => (hb4.cell (p := ⟨F, i, none⟩) hFlt).trans (HFC.out i x hi)
      have HBK4 : Hid (Bk w4 C (List.replicate k 1)) := by
        refine ⟨Nat.lt_of_lt_of_le HBK.out.1 hb4.size, fun i x hi => ?_⟩
        obtain ⟨a1, a2⟩ := HBK.out.2 i x hi
        exact ⟨(hb4.cell (p := ⟨C, i, none⟩) HBK.out.1).trans a1, (hb4.frozen (p := ⟨C, i, none⟩) HBK.out.1).trans a2⟩
      have hF4 : F < w4.heap.size := Nat.lt_of_lt_of_le hFlt hb4.size
      clear hb4 HFC HBK hFlt KB2
      obtain ⟨R, hR1, hR2, hR3, hR4⟩ := HT.out
      have HR : Hid (R.length = k ∧ Lm.Ok M R ∧ tk8 R k = 256 ∧ su8 (fr A k) R k = u) := ⟨hR1, hR2, hR3, hR4⟩
      clear HT hR1 hR2 hR3 hR4
      go_wp2_with fail
      go_loopw [12] (fun s12 wr => ∃ (b : Bool) (l : List Nat), s12 = .bool b ∧ Hid (l.length = k) ∧ Hid (Lm.Ok M l) ∧ Hid (Unit → Lm.vl M R < Lm.vl M l → b = true) ∧ Hid (Bk wr C l) ∧ Hid (Only C w4 wr)) (fun _ wr => M ^ k - Lm.vl M (rdL wr C k))
      case atStart => exact ⟨false, List.replicate k 1, rfl, List.length_replicate, fun x hx => by rw [List.eq_of_mem_replicate hx]; omega, fun _ h => by
          exfalso
          have : ∀ j, Lm.vl M (List.replicate j 1) = 0 := by
            intro j
            induction j with
            | zero => rfl
            | succ j ih => rw [List.replicate_succ]; simp [Lm.vl, ih]
          rw [this] at h; omega, HBK4, Only.refl _ _⟩
      case round =>
        clear HBK4
        obtain ⟨b, l, rfl, LL, LO, LV, LB, LOn⟩ := hrel
        obtain ⟨W2, rfl⟩ : ∃ W2, W2 = wr := ⟨wr, rfl⟩
        have hFW : Hid (∀ (i x : Nat), (fr A k)[i]? = some x → W2.cell? ⟨F, i, none⟩ = some (.int .i64 (x : Int))) := fun i x hi => by
          rw [← HF4.out i x hi]
          unfold World.cell?
          simp only
          rw [LOn.out.block F hF4 hFN.out]
        go_wp2_with fail
        go_loopw [13, 14, 15] (fun s13 s14 s15 wr => ∃ i t s q : Nat, i ≤ k ∧ s15 = .int .i64 (i : Int) ∧ s13 = .int .i64 (t : Int) ∧ s14 = .int .i64 (s : Int) ∧ t ≤ i * 128 ∧ s ≤ i * 1000000 ∧ Hid (Unit → t = tk8 l i) ∧ Hid (Unit → s = su8 (fr A k) l i) ∧ wr = W2.drewN q) (fun _ _ s _ => k - (intOf s).toNat)
        case atStart => exact ⟨0, 0, 0, 0, Nat.zero_le _, rfl, rfl, rfl, by omega, by omega, fun _ => rfl, fun _ => rfl, rfl⟩
        case round =>
          obtain ⟨i, t, s, q, hi, rfl, rfl, rfl, ht, hs, KT, KS, rfl⟩ := hrel
          by_cases hik : i < k
          · obtain ⟨y, hy⟩ : ∃ y, l[i]? = some y := ⟨_, List.getElem?_eq_getElem (by have := LL.out; omega)⟩
            obtain ⟨x, hxa, hxf⟩ := fr_get A k i (by have := HA5.out; omega) hik
            obtain ⟨cy, fy⟩ := LB.out.2 i y hy
            have cx := hFW.out i _ hxf
            have hyo := LO.out y (List.mem_of_getElem? hy)
            have hx6 : x < 65536 := by obtain ⟨x', e1, e2, _⟩ := HA.out i (by omega); rw [hxa] at e1; cases e1; exact e2
            obtain ⟨f, hf⟩ : ∃ f, f = 1 + x := ⟨_, rfl⟩
            rw [← hf] at cx hxf
            obtain ⟨d, hd⟩ : ∃ d, d = 8 - y := ⟨_, rfl⟩
            obtain ⟨p, hp⟩ : ∃ p, p = 2 ^ d := ⟨_, rfl⟩
            have hp128 : p ≤ 128 := by rw [hp]; exact Nat.pow_le_pow_right (n := 2) (by omega) (show d ≤ 7 by omega)
            obtain ⟨z, hz⟩ : ∃ z, z = f * y := ⟨_, rfl⟩
            have hz6 : z ≤ 1000000 := by
              rw [hz]
              have : f * y ≤ 65536 * 4 := Nat.mul_le_mul (by omega) (by omega)
              omega
            have KT2 : Hid (Unit → t + p = tk8 l (i + 1)) := fun _ => by
              show _ = tk8 l i + 2 ^ (8 - l[i]?.getD 0)
              rw [← KT.out (), hy, hp, hd]; rfl
            have KS2 : Hid (Unit → s + z = su8 (fr A k) l (i + 1)) := fun _ => by
              show _ = su8 (fr A k) l i + (fr A k)[i]?.getD 0 * l[i]?.getD 0
              rw [← KS.out (), hxf, hy, hz]; rfl
            have hm := mul_is f y z hz
            have hd2 : 8 - (y : Int) = (d : Int) := by omega
            have hsh1 : IntKind.i64.wrap ((2 : Int) ^ d) = (p : Int) := by
              have e : ((2 : Int) ^ d) = (p : Int) := by rw [hp]; simp
              rw [e, IntWalk.i64_in _ (by omega)]
            have hw1 : IntKind.i64.wrap (d : Int) = (d : Int) := IntWalk.i64_in _ (by omega)
            have hw2 : IntKind.i64.wrap (z : Int) = (z : Int) := IntWalk.i64_in _ (by omega)
            have hw3 : IntKind.i64.wrap ((t : Int) + (p : Int)) = (t : Int) + (p : Int) := IntWalk.i64_in _ (by omega)
            have hw4 : IntKind.i64.wrap ((s : Int) + (z : Int)) = (s : Int) + (z : Int) := IntWalk.i64_in _ (by omega)
            have b1 : t + p ≤ (i + 1) * 128 := by omega
            have b2 : s + z ≤ (i + 1) * 1000000 := by omega
            have d0 : (0 : Int) ≤ (d : Int) := by omega
            clear hy hxa hxf fy hyo hx6 hf hd hp hz KT KS
            go_wp2_with fail
            go_quiet (fail)
            clear hw1 hw2 hw3 hw4 hsh1
            go_wp2_with fail
            go_roundw
            case rel => exact ⟨i + 1, t + p, s + z, _, by omega, by go_num, by first | rfl | go_num, by first | rfl | go_num, b1, b2, KT2, KS2, by first | rfl | (rw [World.drewN_drewN])⟩
            case measure => simp [intOf]; omega
          · obtain rfl : i = k := by omega
            have hrlt := Lm.vl_lt M (by omega) R HR.out.2.1
            rw [HR.out.1] at hrlt
            have HRL : Hid (Lm.vl M R = Lm.vl M l → t = 256 ∧ s = u) := fun h => by
              have e : R = l := Lm.vl_inj M (by omega) R l HR.out.2.1 LO.out (by rw [HR.out.1, LL.out]) h
              rw [KT.out (), KS.out (), ← e]; exact ⟨HR.out.2.2.1, HR.out.2.2.2⟩
            have HLE : Hid (t ≤ 256 → u ≤ s) := fun h => by
              rw [KS.out ()]; exact HL.out l LL.out LO.out (by rw [← KT.out ()]; exact h)
            have HRLT := Lib.hid hrlt
            clear hrlt
            cases b with
            | true =>
              by_cases h256 : t ≤ 256
              · have g1 : decide ((t : Int) ≤ 256) = true := by simp; omega
                have g2 : decide ((s : Int) < (u : Int)) = false := by have := HLE.out h256; simp; omega
                have g2' : decide (s < u) = false := by have := HLE.out h256; simp; omega
                have g1' : decide (t ≤ 256) = true := by simp; omega
                clear KT KS ht hs
                go_wp2_with fail
                refine (next_any C i c2 M l _ (LB.out.drewN q) LL.out.symm hN5 (by omega) (fun x hx => by have := LO.out x hx; omega)).mono ?_
                rintro e w5 ⟨ho, hcase⟩
                have LO5 := Lib.hid ((LOn.out.trans (only_drewN (Only.refl _ _) q)).trans ho)
                have hlt5 := Lm.vl_lt M (by omega) l LO.out
                rw [LL.out] at hlt5
                rcases hcase with ⟨r, hnx, rfl, hbk⟩ | ⟨hnx, rfl⟩
                · obtain ⟨ok1, ok2, ok3⟩ := Lm.nx_ok M (by omega) l r LO.out hnx
                  have NL : Hid (r.length = i) := by show _ = _; rw [ok2]; exact LL.out
                  have NO := Lib.hid ok1
                  have NB := Lib.hid hbk
                  have NV : Hid (Unit → Lm.vl M R < Lm.vl M r → true = true) := fun _ h => rfl
                  have hm1 : rdL w5 C i = r := rdL_is hbk NL.out
                  have hm2 : rdL W2 C i = l := rdL_is LB.out LL.out
                  have HMS : Hid (M ^ i - Lm.vl M (rdL w5 C i) < M ^ i - Lm.vl M (rdL W2 C i)) := by show _ < _; rw [hm1, hm2, ok3]; omega
                  clear hnx ok1 ok2 ok3 hbk hm1 hm2 hlt5 ho LB LOn LV LL LO hFW g1 g1' g2 g2'
                  go_wp2_with fail
                  go_roundw
                  case rel => exact ⟨true, r, rfl, NL, NO, fun _ _ => rfl, NB, LO5⟩
                  case measure => exact HMS.out
                · have hnn := Lm.nx_none M (by omega) l LO.out hnx
                  rw [LL.out] at hnn
                  have HBT : True := trivial
                  have hb5 := LO5.out.below KB4.out HCG.out KB4.out.size
                  have B5 := Lib.hid (BA.out.trans (hb5.mono BA.out.size))
                  clear hnx hnn hlt5 ho LB LOn LV LL LO hFW hb5 g1 g1' g2 g2'
                  go_wp2_with fail
                  refine (lives_any _).mono ?_
                  rintro e w6 ⟨rfl, hb6⟩
                  have B6 := Lib.hid (B5.out.trans (hb6.mono B5.out.size))
                  clear hb6
                  go_wp2
                  go_ret
                  exact ⟨rfl, B6.out⟩
              · have g1 : decide ((t : Int) ≤ 256) = false := by simp; omega
                have g1' : decide (t ≤ 256) = false := by simp; omega
                clear KT KS ht hs
                go_wp2_with fail
                refine (next_any C i c2 M l _ (LB.out.drewN q) LL.out.symm hN5 (by omega) (fun x hx => by have := LO.out x hx; omega)).mono ?_
                rintro e w5 ⟨ho, hcase⟩
                have LO5 := Lib.hid ((LOn.out.trans (only_drewN (Only.refl _ _) q)).trans ho)
                have hlt5 := Lm.vl_lt M (by omega) l LO.out
                rw [LL.out] at hlt5
                rcases hcase with ⟨r, hnx, rfl, hbk⟩ | ⟨hnx, rfl⟩
                · obtain ⟨ok1, ok2, ok3⟩ := Lm.nx_ok M (by omega) l r LO.out hnx
                  have NL : Hid (r.length = i) := by show _ = _; rw [ok2]; exact LL.out
                  have NO := Lib.hid ok1
                  have NB := Lib.hid hbk
                  have NV : Hid (Unit → Lm.vl M R < Lm.vl M r → true = true) := fun _ h => rfl
                  have hm1 : rdL w5 C i = r := rdL_is hbk NL.out
                  have hm2 : rdL W2 C i = l := rdL_is LB.out LL.out
                  have HMS : Hid (M ^ i - Lm.vl M (rdL w5 C i) < M ^ i - Lm.vl M (rdL W2 C i)) := by show _ < _; rw [hm1, hm2, ok3]; omega
                  clear hnx ok1 ok2 ok3 hbk hm1 hm2 hlt5 ho LB LOn LV LL LO hFW g1 g1'
                  go_wp2_with fail
                  go_roundw
                  case rel => exact ⟨true, r, rfl, NL, NO, fun _ _ => rfl, NB, LO5⟩
                  case measure => exact HMS.out
                · have hnn := Lm.nx_none M (by omega) l LO.out hnx
                  rw [LL.out] at hnn
                  have HBT : True := trivial
                  have hb5 := LO5.out.below KB4.out HCG.out KB4.out.size
                  have B5 := Lib.hid (BA.out.trans (hb5.mono BA.out.size))
                  clear hnx hnn hlt5 ho LB LOn LV LL LO hFW hb5 g1 g1'
                  go_wp2_with fail
                  refine (lives_any _).mono ?_
                  rintro e w6 ⟨rfl, hb6⟩
                  have B6 := Lib.hid (B5.out.trans (hb6.mono B5.out.size))
                  clear hb6
                  go_wp2
                  go_ret
                  exact ⟨rfl, B6.out⟩
            | false =>
              by_cases h256 : t ≤ 256
              · by_cases ht256 : t = 256
                · by_cases hsu : s = u
                  · have g1 : decide ((t : Int) ≤ 256) = true := by simp; omega
                    have g2 : decide ((s : Int) < (u : Int)) = false := by have := HLE.out h256; simp; omega
                    have g2' : decide (s < u) = false := by have := HLE.out h256; simp; omega
                    have g1' : decide (t ≤ 256) = true := by simp; omega
                    have g3 : ((t : Int) == 256) = true := by rw [beq_iff_eq]; omega
                    have g4 : ((s : Int) == (u : Int)) = true := by rw [beq_iff_eq]; omega
                    clear KT KS ht hs
                    go_wp2_with fail
                    refine (next_any C i c2 M l _ (LB.out.drewN q) LL.out.symm hN5 (by omega) (fun x hx => by have := LO.out x hx; omega)).mono ?_
                    rintro e w5 ⟨ho, hcase⟩
                    have LO5 := Lib.hid ((LOn.out.trans (only_drewN (Only.refl _ _) q)).trans ho)
                    have hlt5 := Lm.vl_lt M (by omega) l LO.out
                    rw [LL.out] at hlt5
                    rcases hcase with ⟨r, hnx, rfl, hbk⟩ | ⟨hnx, rfl⟩
                    · obtain ⟨ok1, ok2, ok3⟩ := Lm.nx_ok M (by omega) l r LO.out hnx
                      have NL : Hid (r.length = i) := by show _ = _; rw [ok2]; exact LL.out
                      have NO := Lib.hid ok1
                      have NB := Lib.hid hbk
                      have NV : Hid (Unit → Lm.vl M R < Lm.vl M r → true = true) := fun _ h => rfl
                      have hm1 : rdL w5 C i = r := rdL_is hbk NL.out
                      have hm2 : rdL W2 C i = l := rdL_is LB.out LL.out
                      have HMS : Hid (M ^ i - Lm.vl M (rdL w5 C i) < M ^ i - Lm.vl M (rdL W2 C i)) := by show _ < _; rw [hm1, hm2, ok3]; omega
                      clear hnx ok1 ok2 ok3 hbk hm1 hm2 hlt5 ho LB LOn LV LL LO hFW g1 g1' g2 g2' g3 g4
                      go_wp2_with fail
                      go_roundw
                      case rel => exact ⟨true, r, rfl, NL, NO, fun _ _ => rfl, NB, LO5⟩
                      case measure => exact HMS.out
                    · have hnn := Lm.nx_none M (by omega) l LO.out hnx
                      rw [LL.out] at hnn
                      have HBT : True := trivial
                      have hb5 := LO5.out.below KB4.out HCG.out KB4.out.size
                      have B5 := Lib.hid (BA.out.trans (hb5.mono BA.out.size))
                      clear hnx hnn hlt5 ho LB LOn LV LL LO hFW hb5 g1 g1' g2 g2' g3 g4
                      go_wp2_with fail
                      refine (lives_any _).mono ?_
                      rintro e w6 ⟨rfl, hb6⟩
                      have B6 := Lib.hid (B5.out.trans (hb6.mono B5.out.size))
                      clear hb6
                      go_wp2
                      go_ret
                      exact ⟨rfl, B6.out⟩
                  · have g1 : decide ((t : Int) ≤ 256) = true := by simp; omega
                    have g2 : decide ((s : Int) < (u : Int)) = false := by have := HLE.out h256; simp; omega
                    have g2' : decide (s < u) = false := by have := HLE.out h256; simp; omega
                    have g1' : decide (t ≤ 256) = true := by simp; omega
                    have g3 : ((t : Int) == 256) = true := by rw [beq_iff_eq]; omega
                    have g4 : ((s : Int) == (u : Int)) = false := by rw [beq_eq_false_iff_ne]; omega
                    clear KT KS ht hs
                    go_wp2_with fail
                    refine (next_any C i c2 M l _ (LB.out.drewN q) LL.out.symm hN5 (by omega) (fun x hx => by have := LO.out x hx; omega)).mono ?_
                    rintro e w5 ⟨ho, hcase⟩
                    have LO5 := Lib.hid ((LOn.out.trans (only_drewN (Only.refl _ _) q)).trans ho)
                    have hlt5 := Lm.vl_lt M (by omega) l LO.out
                    rw [LL.out] at hlt5
                    rcases hcase with ⟨r, hnx, rfl, hbk⟩ | ⟨hnx, rfl⟩
                    · obtain ⟨ok1, ok2, ok3⟩ := Lm.nx_ok M (by omega) l r LO.out hnx
                      have NL : Hid (r.length = i) := by show _ = _; rw [ok2]; exact LL.out
                      have NO := Lib.hid ok1
                      have NB := Lib.hid hbk
                      have NV : Hid (Unit → Lm.vl M R < Lm.vl M r → false = true) := fun _ h => by
                        exfalso
                        rw [ok3] at h
                        by_cases hq : Lm.vl M R < Lm.vl M l
                        · have := LV.out () hq; cases this
                        · have := HRL.out (by omega); omega
                      have hm1 : rdL w5 C i = r := rdL_is hbk NL.out
                      have hm2 : rdL W2 C i = l := rdL_is LB.out LL.out
                      have HMS : Hid (M ^ i - Lm.vl M (rdL w5 C i) < M ^ i - Lm.vl M (rdL W2 C i)) := by show _ < _; rw [hm1, hm2, ok3]; omega
                      clear hnx ok1 ok2 ok3 hbk hm1 hm2 hlt5 ho LB LOn LV LL LO hFW g1 g1' g2 g2' g3 g4
                      go_wp2_with fail
                      go_roundw
                      case rel => exact ⟨false, r, rfl, NL, NO, NV, NB, LO5⟩
                      case measure => exact HMS.out
                    · have hnn := Lm.nx_none M (by omega) l LO.out hnx
                      rw [LL.out] at hnn
                      have HBT : False := by
                        have h1 := HRLT.out
                        by_cases hq : Lm.vl M R < Lm.vl M l
                        · have := LV.out () hq; cases this
                        · have := HRL.out (by omega); omega
                      have hb5 := LO5.out.below KB4.out HCG.out KB4.out.size
                      have B5 := Lib.hid (BA.out.trans (hb5.mono BA.out.size))
                      clear hnx hnn hlt5 ho LB LOn LV LL LO hFW hb5 g1 g1' g2 g2' g3 g4
                      exact HBT.elim
                · have g1 : decide ((t : Int) ≤ 256) = true := by simp; omega
                  have g2 : decide ((s : Int) < (u : Int)) = false := by have := HLE.out h256; simp; omega
                  have g2' : decide (s < u) = false := by have := HLE.out h256; simp; omega
                  have g1' : decide (t ≤ 256) = true := by simp; omega
                  have g3 : ((t : Int) == 256) = false := by rw [beq_eq_false_iff_ne]; omega
                  clear KT KS ht hs
                  go_wp2_with fail
                  refine (next_any C i c2 M l _ (LB.out.drewN q) LL.out.symm hN5 (by omega) (fun x hx => by have := LO.out x hx; omega)).mono ?_
                  rintro e w5 ⟨ho, hcase⟩
                  have LO5 := Lib.hid ((LOn.out.trans (only_drewN (Only.refl _ _) q)).trans ho)
                  have hlt5 := Lm.vl_lt M (by omega) l LO.out
                  rw [LL.out] at hlt5
                  rcases hcase with ⟨r, hnx, rfl, hbk⟩ | ⟨hnx, rfl⟩
                  · obtain ⟨ok1, ok2, ok3⟩ := Lm.nx_ok M (by omega) l r LO.out hnx
                    have NL : Hid (r.length = i) := by show _ = _; rw [ok2]; exact LL.out
                    have NO := Lib.hid ok1
                    have NB := Lib.hid hbk
                    have NV : Hid (Unit → Lm.vl M R < Lm.vl M r → false = true) := fun _ h => by
                      exfalso
                      rw [ok3] at h
                      by_cases hq : Lm.vl M R < Lm.vl M l
                      · have := LV.out () hq; cases this
                      · have := HRL.out (by omega); omega
                    have hm1 : rdL w5 C i = r := rdL_is hbk NL.out
                    have hm2 : rdL W2 C i = l := rdL_is LB.out LL.out
                    have HMS : Hid (M ^ i - Lm.vl M (rdL w5 C i) < M ^ i - Lm.vl M (rdL W2 C i)) := by show _ < _; rw [hm1, hm2, ok3]; omega
                    clear hnx ok1 ok2 ok3 hbk hm1 hm2 hlt5 ho LB LOn LV LL LO hFW g1 g1' g2 g2' g3
                    go_wp2_with fail
                    go_roundw
                    case rel => exact ⟨false, r, rfl, NL, NO, NV, NB, LO5⟩
                    case measure => exact HMS.out
                  · have hnn := Lm.nx_none M (by omega) l LO.out hnx
                    rw [LL.out] at hnn
                    have HBT : False := by
                      have h1 := HRLT.out
                      by_cases hq : Lm.vl M R < Lm.vl M l
                      · have := LV.out () hq; cases this
                      · have := HRL.out (by omega); omega
                    have hb5 := LO5.out.below KB4.out HCG.out KB4.out.size
                    have B5 := Lib.hid (BA.out.trans (hb5.mono BA.out.size))
                    clear hnx hnn hlt5 ho LB LOn LV LL LO hFW hb5 g1 g1' g2 g2' g3
                    exact HBT.elim
              · have g1 : decide ((t : Int) ≤ 256) = false := by simp; omega
                have g1' : decide (t ≤ 256) = false := by simp; omega
                have g3 : ((t : Int) == 256) = false := by rw [beq_eq_false_iff_ne]; omega
                clear KT KS ht hs
                go_wp2_with fail
                refine (next_any C i c2 M l _ (LB.out.drewN q) LL.out.symm hN5 (by omega) (fun x hx => by have := LO.out x hx; omega)).mono ?_
                rintro e w5 ⟨ho, hcase⟩
                have LO5 := Lib.hid ((LOn.out.trans (only_drewN (Only.refl _ _) q)).trans ho)
                have hlt5 := Lm.vl_lt M (by omega) l LO.out
                rw [LL.out] at hlt5
                rcases hcase with ⟨r, hnx, rfl, hbk⟩ | ⟨hnx, rfl⟩
                · obtain ⟨ok1, ok2, ok3⟩ := Lm.nx_ok M (by omega) l r LO.out hnx
                  have NL : Hid (r.length = i) := by show _ = _; rw [ok2]; exact LL.out
                  have NO := Lib.hid ok1
                  have NB := Lib.hid hbk
                  have NV : Hid (Unit → Lm.vl M R < Lm.vl M r → false = true) := fun _ h => by
                    exfalso
                    rw [ok3] at h
                    by_cases hq : Lm.vl M R < Lm.vl M l
                    · have := LV.out () hq; cases this
                    · have := HRL.out (by omega); omega
                  have hm1 : rdL w5 C i = r := rdL_is hbk NL.out
                  have hm2 : rdL W2 C i = l := rdL_is LB.out LL.out
                  have HMS : Hid (M ^ i - Lm.vl M (rdL w5 C i) < M ^ i - Lm.vl M (rdL W2 C i)) := by show _ < _; rw [hm1, hm2, ok3]; omega
                  clear hnx ok1 ok2 ok3 hbk hm1 hm2 hlt5 ho LB LOn LV LL LO hFW g1 g1' g3
                  go_wp2_with fail
                  go_roundw
                  case rel => exact ⟨false, r, rfl, NL, NO, NV, NB, LO5⟩
                  case measure => exact HMS.out
                · have hnn := Lm.nx_none M (by omega) l LO.out hnx
                  rw [LL.out] at hnn
                  have HBT : False := by
                    have h1 := HRLT.out
                    by_cases hq : Lm.vl M R < Lm.vl M l
                    · have := LV.out () hq; cases this
                    · have := HRL.out (by omega); omega
                  have hb5 := LO5.out.below KB4.out HCG.out KB4.out.size
                  have B5 := Lib.hid (BA.out.trans (hb5.mono BA.out.size))
                  clear hnx hnn hlt5 ho LB LOn LV LL LO hFW hb5 g1 g1' g3
                  exact HBT.elim

set_option maxHeartbeats 4000000 in
theorem limitLeast_walk (x0 x1 x2 x3 x4 : Nat) (n most : Int) (w : World) (h0 : x0 < 65536) (h1 : x1 < 65536) (h2 : x2 < 65536) (h3 : x3 < 65536) (h4 : x4 < 65536) (lo1 : -9223372036854775808 ≤ n) (hi1 : n ≤ 9223372036854775807) (lo2 : -9223372036854775808 ≤ most) (hi2 : most ≤ 9223372036854775807) :
    Calls Try.prog 7 #[.agg #[.int .u16 (x0 : Int), .int .u16 (x1 : Int), .int .u16 (x2 : Int), .int .u16 (x3 : Int), .int .u16 (x4 : Int)], .int .i64 n, .int .i64 most] w fun e w' => e = .returned (.bool true) ∧ Below w.heap.size w w' := by
  by_cases h : n < 2 ∨ 5 < n ∨ most < 3 ∨ 4 < most
  · have HB := Lib.hid (below1 w (.cells #[.int .u16 (x0 : Int), .int .u16 (x1 : Int), .int .u16 (x2 : Int), .int .u16 (x3 : Int), .int .u16 (x4 : Int)] 38))
    clear h0 h1 h2 h3 h4
    by_cases g1 : n < 2
    · have t1 : decide (n < 2) = true := by simpa using g1
      clear h g1
      go_enter Try.func7, Try.ntmps7
      go_wp2_with fail
      refine (lives_any _).mono ?_
      rintro e w5 ⟨rfl, hb⟩
      have B5 := Lib.hid (HB.out.trans (hb.mono HB.out.size))
      clear hb
      go_wp2
      go_ret
      exact ⟨rfl, B5.out⟩
    · have t1 : decide (n < 2) = false := by simpa using g1
      by_cases g2 : 5 < n
      · have t2 : decide (5 < n) = true := by simpa using g2
        clear h g1 g2
        go_enter Try.func7, Try.ntmps7
        go_wp2_with fail
        refine (lives_any _).mono ?_
        rintro e w5 ⟨rfl, hb⟩
        have B5 := Lib.hid (HB.out.trans (hb.mono HB.out.size))
        clear hb
        go_wp2
        go_ret
        exact ⟨rfl, B5.out⟩
      · have t2 : decide (5 < n) = false := by simpa using g2
        by_cases g3 : most < 3
        · have t3 : decide (most < 3) = true := by simpa using g3
          clear h g1 g2 g3
          go_enter Try.func7, Try.ntmps7
          go_wp2_with fail
          refine (lives_any _).mono ?_
          rintro e w5 ⟨rfl, hb⟩
          have B5 := Lib.hid (HB.out.trans (hb.mono HB.out.size))
          clear hb
          go_wp2
          go_ret
          exact ⟨rfl, B5.out⟩
        · have t3 : decide (most < 3) = false := by simpa using g3
          have g4 : 4 < most := by omega
          have t4 : decide (4 < most) = true := by simpa using g4
          clear h g1 g2 g3 g4
          go_enter Try.func7, Try.ntmps7
          go_wp2_with fail
          refine (lives_any _).mono ?_
          rintro e w5 ⟨rfl, hb⟩
          have B5 := Lib.hid (HB.out.trans (hb.mono HB.out.size))
          clear hb
          go_wp2
          go_ret
          exact ⟨rfl, B5.out⟩
  · have h' := least_in x0 x1 x2 x3 x4 n.toNat most.toNat w h0 h1 h2 h3 h4 (by omega) (by omega) (by omega) (by omega)
    rwa [show ((n.toNat : Nat) : Int) = n by omega, show ((most.toNat : Nat) : Int) = most by omega] at h'

set_option maxRecDepth 100000 in
theorem limitLeast_lifted (os : Os) (started : os.Started) (H : Type) (enc : TypeId × Value → H) :
    ReturnsInHanded {} Try.checked os 7 .any (Rows.limitLeastSpec.pre6 enc Try.prog Try.f7 Rows.limitLeastRow.domain false) (Rows.limitLeastSpec.post enc Try.prog Try.f7 false true false false) := by
  refine returnsInHanded_of_change_sized (C := Try.checked) Try.own started (by kernel_rfl) Try.func7
    (ChangeSpec.witness6 (enc := enc) (C := Try.checked) false ⟨#[], #[.agg #[.int .u16 0, .int .u16 0, .int .u16 0, .int .u16 0, .int .u16 0], .int .i64 0, .int .i64 0], []⟩ 8 (by kernel_rfl) (by kernel_rfl) (by kernel_rfl) (by kernel_rfl)) ?_
  intro W base args ds gs before hval0 hW _ hsz0 _
  have hval : ∀ (j : Nat) t v, Try.f7.params[j]? = some t → args[j]? = some v → Value.okWide Try.prog W .any base t v := hval0
  have hsz : (DataW.weightsEach Try.prog (Try.f7.params.toList ++ Rows.limitLeastSpec.plain.varTypes Try.prog) (ds ++ gs)).all (· ≤ reachBytes) = true := hsz0
  have hW' := hW
  obtain ⟨p, q, hA0, hV, rfl, hfz, hnd⟩ := hW
  have hA : DataW.TrodAll enc Try.prog W 0 (fun _ => true) true Try.f7.params.toList args.toList ds p := hA0
  rw [Try.params7] at hA hval hsz
  obtain ⟨v0, vs0, d0, ds0, p0, q0, hargs, rfl, rfl, h0, r0⟩ := trodAll_cons hA
  obtain ⟨v1, vs1, d1, ds1, p1, q1, rfl, rfl, rfl, h1, r1⟩ := trodAll_cons r0
  obtain ⟨v2, vs2, d2, ds2, p2, q2, rfl, rfl, rfl, h2, r2⟩ := trodAll_cons r1
  obtain ⟨rfl, rfl, rfl⟩ := trodAll_nil r2
  obtain rfl : args = #[v0, v1, v2] := by cases args; simp_all
  obtain ⟨rfl, rfl⟩ := trodVars_none hV
  have k0 := h0
  have lt0 : ∀ x ∈ p0, x.block < W.heap.size := by obtain ⟨m, hm⟩ := k0; exact DataW.trod_lt m _ _ _ hm
  obtain ⟨x0, x1, x2, x3, x4, rfl, hx0, hx1, hx2, hx3, hx4⟩ := u16x5_open (hval 0 38 v0 rfl rfl) h0
  have k1 := h1
  have lt1 : ∀ x ∈ p1, x.block < W.heap.size := by obtain ⟨m, hm⟩ := k1; exact DataW.trod_lt m _ _ _ hm
  obtain ⟨n1, ev1, _, _, wn1⟩ := open_int Try.underlying3 (hval 1 3 v1 rfl rfl) h1
  subst ev1
  obtain ⟨lo1, hi1⟩ := wf_bounds wn1
  have k2 := h2
  have lt2 : ∀ x ∈ p2, x.block < W.heap.size := by obtain ⟨m, hm⟩ := k2; exact DataW.trod_lt m _ _ _ hm
  obtain ⟨n2, ev2, _, _, wn2⟩ := open_int Try.underlying3 (hval 2 3 v2 rfl rfl) h2
  subst ev2
  obtain ⟨lo2, hi2⟩ := wf_bounds wn2
  clear hA0 hval0 hsz0
  refine (limitLeast_walk x0 x1 x2 x3 x4 n1 n2 W hx0 hx1 hx2 hx3 hx4 lo1 hi1 lo2 hi2).mono fun e W' ⟨he, bel⟩ => ?_
  subst he
  exact ⟨_, rfl, _, _, _, [], _, [], hW', trodAll_mk1 (shut_bool Try.underlying4 _), (trodAll_cons_mk (Below.trod Try.laidOut (by kernel_rfl) (of_decide_eq_true (by kernel_rfl)) k0 bel lt0) (trodAll_cons_mk (Below.trod Try.laidOut (by kernel_rfl) (of_decide_eq_true (by kernel_rfl)) k1 bel lt1) (trodAll_cons_mk (Below.trod Try.laidOut (by kernel_rfl) (of_decide_eq_true (by kernel_rfl)) k2 bel lt2) trodAll_mk0))), rfl, bel.frame _, fun h => by cases h⟩

theorem limitLeast_proved : Rows.LimitLeastSaid :=
  OpenClaim.holds_of_wide 7 Try.f7 rfl rfl rfl rfl rfl rfl rfl ⟨rfl, rfl, rfl, rfl, rfl⟩ rfl rfl rfl rfl rfl (by kernel_rfl) Try.func7 (by kernel_rfl)
    (of_decide_eq_true (by kernel_rfl)) (by unfold Func.isWrapper; rw [if_neg (of_decide_eq_false (by kernel_rfl))]; exact ⟨rfl, rfl⟩)
    (fun os started H enc _ => limitLeast_lifted os started H enc)
end Go.Proofs.Ytedbonnejgpjeaa
