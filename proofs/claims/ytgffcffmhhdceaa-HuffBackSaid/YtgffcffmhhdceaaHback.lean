/- Rows of codes: what stands where in them; the call's own list of symbols. -/
import Derived.Test.YtgffcffmhhdceaaHhit
import Derived.Test.YtgffcffmhhdceaaHrput2
import Derived.Test.YtgffcffmhhdceaaHrd2
namespace Go.Proofs.Ytgffcffmhhdceaa
open Go.RowKit

/-- The codes of symbols, one behind the other. -/
def rowOf (ls : List Nat) (ks : List Nat) : List Bool := (ks.map (cw ls)).flatten
theorem rowOf_snoc (ls ks : List Nat) (k : Nat) : rowOf ls (ks ++ [k]) = rowOf ls ks ++ cw ls k := by simp [rowOf]
theorem cw_len (ls : List Nat) (x : Nat) : (cw ls x).length = Hf.ln ls x := by unfold cw; exact Bs.bitsOf_length _ _
theorem rowOf_len_snoc (ls ks : List Nat) (k : Nat) : (rowOf ls (ks ++ [k])).length = (rowOf ls ks).length + Hf.ln ls k := by rw [rowOf_snoc, List.length_append, cw_len]
theorem rowOf_append (ls ks js : List Nat) : rowOf ls (ks ++ js) = rowOf ls ks ++ rowOf ls js := by simp [rowOf]
theorem rowOf_cons (ls ks : List Nat) (k : Nat) : rowOf ls (k :: ks) = cw ls k ++ rowOf ls ks := by simp [rowOf]
theorem rowOf_split (ls ks : List Nat) (j : Nat) (hj : j < ks.length) : rowOf ls ks = rowOf ls (ks.take j) ++ (cw ls ks[j] ++ rowOf ls (ks.drop (j + 1))) := by
  have h : ks.take j ++ (ks[j] :: ks.drop (j + 1)) = ks := by rw [List.getElem_cons_drop, List.take_append_drop]
  rw [← rowOf_cons, ← rowOf_append, h]
theorem rowOf_take (ls ks : List Nat) (j : Nat) (hj : j < ks.length) : (rowOf ls (ks.take (j + 1))).length = (rowOf ls (ks.take j)).length + Hf.ln ls ks[j] := by
  rw [← List.take_append_getElem hj, rowOf_len_snoc]
theorem rowOf_le (ls : List Nat) (ks : List Nat) (h : ∀ k ∈ ks, Hf.ln ls k ≤ 15) : (rowOf ls ks).length ≤ 15 * ks.length := by
  induction ks with
  | nil => simp [rowOf]
  | cons k ks ih =>
    have h1 := ih fun x hx => h x (List.mem_cons_of_mem _ hx)
    have h2 := h k (List.mem_cons_self ..)
    simp only [rowOf, List.map_cons, List.flatten_cons, List.length_append, cw_len, List.length_cons] at h1 ⊢
    omega

theorem testBit_two (v d : Nat) : 2 * (v / 2 ^ (d + 1)) + (v.testBit d).toNat = v / 2 ^ d := by
  rw [Nat.testBit_eq_decide_div_mod_eq, Nat.pow_succ, ← Nat.div_div_eq_div_mul]
  generalize v / 2 ^ d = q
  by_cases h : q % 2 = 1
  · rw [decide_eq_true h]; show 2 * (q / 2) + 1 = q; omega
  · rw [decide_eq_false h]; show 2 * (q / 2) + 0 = q; omega

/-- The bits of a code, the highest one first, are its number. -/
theorem vb_code (l : List Bool) (p n v : Nat) (hv : v < 2 ^ n) (h : ∀ i, i < n → l[p + i]?.getD false = v.testBit (n - 1 - i)) : Hf.vb l p n = v := by
  have key : ∀ m, m ≤ n → Hf.vb l p m = v / 2 ^ (n - m) := by
    intro m
    induction m with
    | zero => intro _; rw [Nat.sub_zero, Nat.div_eq_of_lt hv]; rfl
    | succ m ih =>
      intro hm
      show 2 * Hf.vb l p m + (l[p + m]?.getD false).toNat = _
      rw [ih (by omega), h m (by omega), show n - m = (n - 1 - m) + 1 by omega, testBit_two, show n - (m + 1) = n - 1 - m by omega]
  rw [key n (Nat.le_refl _)]
  simp

theorem cw_get (ls : List Nat) (x i : Nat) (hi : i < Hf.ln ls x) : (cw ls x)[i]?.getD false = ((Hf.codes ls)[x]?.getD 0).testBit (Hf.ln ls x - 1 - i) := by
  unfold cw
  rw [← tops_all]
  unfold tops
  simp [hi]

/-- A code stands where it was put. -/
theorem code_hit {zs : List Int} (hf : Fit zs) (l pre post : List Bool) (x : Nat) (h1 : x < zs.length) (h2 : zs[x]?.getD 0 ≠ 0) (hl : l = pre ++ (cw (nat zs) x ++ post)) :
    ∃ kk, Hf.sy (nat zs) kk = x ∧ Hf.Hit (nat zs) l pre.length (Hf.ln (nat zs) x) kk ∧ 0 < Hf.ln (nat zs) x ∧ pre.length + Hf.ln (nat zs) x ≤ l.length := by
  have hc := code_fits hf x h1 h2
  have hg := cw_get (nat zs) x
  have hlen := cw_len (nat zs) x
  obtain ⟨kk, hkk, e⟩ := Hf.sy_of (nat zs) x (by rw [nat_length]; exact h1) hc.2.2 hc.2.1
  have hcd := Hf.codes_get (nat zs) kk hkk
  rw [e] at hcd
  refine ⟨kk, e, ⟨hkk, by rw [e], ?_⟩, hc.2.2, ?_⟩
  · have h3 := hc.1
    rw [hcd] at h3 hg
    refine (vb_code l _ _ _ h3 fun i hi => ?_).symm
    rw [hl, List.getElem?_append_right (Nat.le_add_right _ _), Nat.add_sub_cancel_left, List.getElem?_append_left (by rw [hlen]; exact hi)]
    exact hg i hi
  · rw [hl, List.length_append, List.length_append, hlen]
    omega

/-- Symbols as cells. -/
def vi (xs : List Nat) : List Value := xs.map fun (x : Nat) => Value.int .i64 (x : Int)
theorem vi_length (xs : List Nat) : (vi xs).length = xs.length := by simp [vi]

theorem ints_append {w : World} {base n : Nat} {v : Value} {xs : List Nat} (hown : w.ownsRow base 3 1 v n (vi xs)) (ty : TypeId) (x : Nat) (h1 : n + 1 ≤ 1000) (hb : base ≤ w.heap.size) :
    ∃ v' w', (Builtin.append_ #[22, 22] ty #[v, .slice (some ⟨w.heap.size, 0, none⟩) 1 1]).run Try.prog (w.alloc (.cells #[.int .i64 (x : Int)] 3)) = .ok v' w' ∧ w'.ownsRow base 3 1 v' (n + 1) (vi (xs ++ [x])) ∧ (w.alloc (.cells #[.int .i64 (x : Int)] 3)).grownBy w' v.ownBlock := by
  obtain ⟨i0, hi, hz0, hz1, hz2⟩ := info_parts Try.infoInt
  obtain ⟨v', w', h1, h2, h3, _⟩ := run_append_own (P := Try.prog) (w := w.alloc (.cells #[.int .i64 (x : Int)] 3)) base 22 ty 3 i0 (.int .i64 0) 1 8 Try.underlying22 hi hz0 hz1 hz2 rfl (by decide) v n (vi xs) (hown.alloc _) ⟨w.heap.size, 0, none⟩ 1 1 [.int .i64 (x : Int)] rfl (cell_one_new _ _ _) (by simp [Value.oneCell']) (by unfold maxLen; omega) (by omega) (by simp; omega)
  refine ⟨v', w', h1, ?_, h3⟩
  have e : vi (xs ++ [x]) = vi xs ++ [.int .i64 (x : Int)] := by simp [vi]
  rw [e]
  exact h2

theorem own_ne_int {w : World} {base n b : Nat} {v : Value} {xs : List Value} {cs : Array Value} {fr : Nat × Nat} {t : TypeId} (h : w.ownsRow base 3 1 v n xs) (hb : Has w b (.cells cs t fr)) (ht : t ≠ 3) : v.ownBlock ≠ some b := by
  rcases h.2 with ⟨rfl, _⟩ | ⟨g, cap, cur, rfl, _, hg, _⟩
  · simp [Value.ownBlock]
  · intro e
    simp only [Value.ownBlock, Option.some.injEq] at e
    subst e
    have hb' : w.heap[g]? = some (.cells cs t fr) := hb
    rw [hg] at hb'
    simp only [Option.some.injEq, Obj.cells.injEq] at hb'
    exact ht hb'.2.1.symm

theorem own_stays {w w' : World} {base : Nat} {e : TypeId} {size : Nat} {v : Value} {n : Nat} {xs : List Value} (h : w.ownsRow base e size v n xs) (hb : Below w.heap.size w w') : w'.ownsRow base e size v n xs := by
  obtain ⟨h1, h2⟩ := h
  refine ⟨h1, ?_⟩
  rcases h2 with h | ⟨g, c, cur, h, hbg, hg, r⟩
  · exact Or.inl h
  · exact Or.inr ⟨g, c, cur, h, hbg, (hb.block g (lt_of_block hg)).trans hg, r⟩

theorem own_slice {w : World} {base : Nat} {e : TypeId} {size : Nat} {v : Value} {n : Nat} {xs : List Value} (h : w.ownsRow base e size v n xs) : ∃ a cap, v = .slice a n cap := by
  rcases h.2 with ⟨rfl, rfl⟩ | ⟨g, cap, cur, rfl, _⟩
  · exact ⟨_, _, rfl⟩
  · exact ⟨_, _, rfl⟩

theorem own_at {w : World} {base : Nat} {e : TypeId} {v : Value} {n : Nat} {xs : List Value} (h : w.ownsRow base e 1 v n xs) (hn : 0 < n) : ∃ g cap, v = .slice (some ⟨g, 0, none⟩) n cap ∧ g < w.heap.size := by
  rcases h.2 with ⟨_, h0⟩ | ⟨g, cap, cur, hv, _, hg, _⟩
  · omega
  · exact ⟨g, cap, hv, lt_of_block hg⟩

/-- A row of bits in memory of its own, or none yet. -/
def RowMem (w : World) (s : Value) (l : List Bool) : Prop := (s = .slice none 0 0 ∧ l = []) ∨ ∃ g, s = .slice (some ⟨g, 0, none⟩) ((l.length + 7) / 8) ((l.length + 7) / 8) ∧ Has w g (bytesObj (Bs.pack l))
theorem RowMem.sl {w : World} {s : Value} {l : List Bool} (h : RowMem w s l) (hl : l.length ≤ 100000) : Sl w s (Bs.pack l) := by
  rcases h with ⟨rfl, rfl⟩ | ⟨g, rfl, h⟩
  · exact Sl.nil _
  · exact Sl.has h (Bs.pack_lt l) (by rw [Bs.pack_length]; omega) _ _ (Bs.pack_length l).symm
theorem RowMem.later {w w' : World} {s : Value} {l : List Bool} (h : RowMem w s l) (hb : Below w.heap.size w w') : RowMem w' s l := h.imp id fun ⟨g, e, h⟩ => ⟨g, e, h.later hb⟩
theorem RowMem.shape {w : World} {s : Value} {l : List Bool} (h : RowMem w s l) : ∃ a m cap, s = .slice a m cap := by
  rcases h with ⟨rfl, _⟩ | ⟨g, rfl, _⟩ <;> exact ⟨_, _, _, rfl⟩
/-- An index from any integer. -/
theorem mod_ix (i : Int) (len : Nat) (h0 : 0 < len) (h9 : len ≤ 17592186044416) : ∃ p : Nat, p < len ∧ (IntKind.u64.wrap i).tmod (len : Int) = (p : Int) ∧ wrap64 (p : Int) = (p : Int) := by
  have h := IntKind.wrap_u64 i
  have hn : 0 ≤ IntKind.u64.wrap i := by rw [h]; omega
  obtain ⟨m, hm⟩ := Int.eq_ofNat_of_zero_le hn
  refine ⟨m % len, Nat.mod_lt _ h0, ?_, ?_⟩
  · rw [hm, ← Int.ofNat_tmod]
  · have := Nat.mod_lt m h0
    have h2 : ((m % len : Nat) : Int) < (len : Int) := by omega
    have h3 : (0 : Int) ≤ ((m % len : Nat) : Int) := by omega
    exact IntWalk.wrap64_in _ (by omega)

/-- What Read tells where a code stands. -/
theorem read_code (T g capg : Nat) (ls : List Nat) (hg : Good ls) (s : Value) (l : List Bool) (N p n k : Nat) (w : World) (hT : Tb w T g capg ls) (hs : Sl w s (Bs.pack l)) (hl : Hid (N = l.length)) (hN : N ≤ 2251799813685248) (hk : Hf.Hit ls l p n k) (hn : 0 < n) (hp : p + n ≤ N) :
    Calls Try.prog 23 #[.pointer (some ⟨T, 0, none⟩), .agg #[s, .int .i64 (N : Int)], .int .i64 (p : Int)] w fun e w' => e = .returned (.tuple #[.int .i64 (Hf.sy ls k : Int), .int .i64 ((p + n : Nat) : Int), .int .i64 0]) ∧ Below w.heap.size w w' := by
  have hpN : p ≤ N := by omega
  have h3 := Hf.rd_hit hk hn (by rw [← hl.out]; exact hp)
  refine Calls.mono (read_ok T g capg ls hg s l N p w hT hs hl hN hpN) ?_
  clear hT hs hg hk hN
  rintro e w' ⟨r, he, hr, hb⟩
  have h := Hf.rd_one hr h3
  rw [h] at he
  refine ⟨?_, hb⟩
  clear hr h3 h hb
  simp only at he
  exact he
end Go.Proofs.Ytgffcffmhhdceaa
