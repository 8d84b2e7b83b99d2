/- Locks: what the statements themselves call: few, do; what their loops keep. -/
import Derived.Test.YtoipmdemicdhoaaQarg

namespace Go.Proofs.Ytoipmdemicdhoaa
set_option maxRecDepth 100000
open Go.RowKit Go.Shelf Go.Maps

/-- Few calls, of short keys. -/
def fewQ (l : List QAc) : Bool := decide (l.length ≤ 100) && l.all (fun a => decide (a.key.size ≤ 100))
theorem fewQ_len {l : List QAc} (h : fewQ l = true) : l.length ≤ 100 := by
  unfold fewQ at h; simp at h; exact h.1
theorem fewQ_key {l : List QAc} (h : fewQ l = true) {i : Nat} {a : QAc} (hi : l[i]? = some a) : a.key.size ≤ 100 := by
  unfold fewQ at h; simp at h; exact h.2 a (List.mem_of_getElem? hi)
theorem QActs.shape {w : World} {s : Value} {l : List QAc} (h : QActs w s l) : ∃ a cap, s = .slice a l.length cap ∧ l.length ≤ cap ∧ l.length ≤ 9223372036854775807 := by
  obtain ⟨a, cap, e, h1, h2, _⟩ := h
  exact ⟨a, cap, e, h2, h1⟩
theorem QActs.at {w : World} {a : Option Addr} {n cap : Nat} {l : List QAc} (h : QActs w (.slice a n cap) l) (hn : 0 < n) : ∃ b off, a = some ⟨b, off, none⟩ ∧ b < w.heap.size ∧ ∀ w', Below w.heap.size w w' → ∀ j ac, l[j]? = some ac → QAt w' b (off + j * 4) ac := by
  obtain ⟨a', cap', e, h1, h2, h3⟩ := h
  cases e
  obtain ⟨b, off, rfl, hb, hq⟩ := h3 hn
  exact ⟨b, off, rfl, hb, fun w' hw j ac hj => (hq j ac hj).later hw hb⟩

set_option maxHeartbeats 2000000 in
theorem few_any (v : Value) (l : List QAc) (w w' : World) (h : QActs w v l) (hb : Below w.heap.size w w') : Calls Try.prog 9 #[v] w' fun e w'' => e = .returned (.bool (fewQ l)) ∧ w'' = w' := by
  obtain ⟨a, cap, rfl, hlc, hl9⟩ := h.shape
  have HA := Lib.hid (fun (h0 : 0 < l.length) => h.at h0)
  obtain ⟨n, hn⟩ : ∃ n, n = l.length := ⟨_, rfl⟩
  have HB := Lib.hid hb
  obtain ⟨z, hz⟩ : ∃ z, z = fewQ l := ⟨_, rfl⟩
  rw [← hz]
  have HT : Hid ((∀ j, j < n → j < 100 ∧ ∀ ac : QAc, l[j]? = some ac → ac.key.size ≤ 100) → z = true) := fun hh => by
    rw [hz]
    unfold fewQ
    simp only [Bool.and_eq_true, decide_eq_true_eq, List.all_eq_true]
    refine ⟨?_, fun x hx => ?_⟩
    · rcases Nat.lt_or_ge 100 l.length with h1 | h1
      · have := (hh 100 (by omega)).1; omega
      · exact h1
    · obtain ⟨j, hj, e⟩ := List.getElem_of_mem hx
      exact (hh j (by omega)).2 x (by rw [List.getElem?_eq_getElem hj, e])
  have HF1 : Hid (100 < n → z = false) := fun hh => by
    rw [hz]; unfold fewQ
    rw [decide_eq_false (by omega)]; rfl
  have HF2 : Hid (∀ (j : Nat) (ac : QAc), l[j]? = some ac → 100 < ac.key.size → z = false) := fun j ac hj hh => by
    rw [hz]
    cases hf : fewQ l with
    | false => rfl
    | true => have := fewQ_key hf hj; omega
  have HN := Lib.hid hn
  rw [← hn] at hl9 hlc ⊢
  clear h hb hz hn
  go_enter Try.func9, Try.ntmps9
  go_wp2
  go_loopw [3] (fun i wr => ∃ k : Nat, k ≤ n ∧ i = .int .i64 k ∧ wr = w' ∧ Hid (∀ j, j < k → j < 100 ∧ ∀ ac : QAc, l[j]? = some ac → ac.key.size ≤ 100)) (fun i _ => n - (intOf i).toNat)
  case atStart => exact ⟨0, Nat.zero_le _, rfl, rfl, fun j hj => absurd hj (by omega)⟩
  case round =>
    obtain ⟨k, hk, rfl, rfl, HP⟩ := hrel
    by_cases hlt : k < n
    · by_cases h100 : 100 ≤ k
      · obtain rfl := HF1.out (by omega)
        have d1 : decide ((k : Int) ≥ 100) = true := decide_eq_true (by omega)
        go_wp2
        go_ret
        exact ⟨rfl, rfl⟩
      · have d1 : decide ((k : Int) ≥ 100) = false := decide_eq_false (by omega)
        obtain ⟨bb, off, rfl, hbl, hq⟩ := HA.out (by rw [← HN.out]; omega)
        obtain ⟨ac, hac⟩ : ∃ ac : QAc, l[k]? = some ac := ⟨l[k]'(by rw [← HN.out]; exact hlt), List.getElem?_eq_getElem _⟩
        have hc := (hq wr HB.out k ac hac).key
        obtain ⟨K, hK⟩ : ∃ K, K = ac.key := ⟨_, rfl⟩
        rw [← hK] at hc
        have HK := Lib.hid hK
        have HAC := Lib.hid hac
        obtain ⟨sz, hsz⟩ : ∃ sz, sz = K.size := ⟨_, rfl⟩
        by_cases hbig : 100 < sz
        · obtain rfl := HF2.out k ac hac (by rw [← hK, ← hsz]; exact hbig)
          have d2 : decide ((K.size : Int) > 100) = true := decide_eq_true (by omega)
          have d3 : 100 < K.size := by omega
          clear hq hac hK hsz
          go_wp2
          go_ret
          exact ⟨rfl, rfl⟩
        · have HP2 : Hid (∀ j, j < k + 1 → j < 100 ∧ ∀ ac : QAc, l[j]? = some ac → ac.key.size ≤ 100) := fun j hj => by
            rcases Nat.lt_or_ge j k with h1 | h1
            · exact HP.out j h1
            · obtain rfl : j = k := by omega
              exact ⟨by omega, fun ac' h' => by rw [HAC.out] at h'; cases h'; rw [← HK.out]; omega⟩
          have d2 : decide ((K.size : Int) > 100) = false := decide_eq_false (by omega)
          have d3 : ¬ 100 < K.size := by omega
          have sm : IntKind.i64.wrap ((k : Int) + 1) = ((k + 1 : Nat) : Int) := by rw [IntWalk.i64_in _ (by omega)]; omega
          clear hq hac hK hsz
          go_wp2
          exact ⟨⟨k + 1, by omega, by first | rfl | trivial | simp, by first | rfl | trivial, HP2⟩, by simp [intOf]; omega⟩
    · obtain rfl : k = n := by omega
      obtain rfl := HT.out HP.out
      go_wp2
      go_ret
      exact ⟨rfl, rfl⟩

/-- A call on one key. -/
def Qk.step (s : Qk.St) (a : QAc) : Qk.St := if a.fr = true then Qk.free s a.who else Qk.ask s a.who a.wr
/-- .. on all locks. -/
def Qk.stepA (s : Qk.Sts) (a : QAc) : Qk.Sts := Qk.upd s a.key (Qk.step (s a.key) a)

/-- What the statements' loops keep: all that was there before the locks were made lies as it did. -/
structure Lw (w wr : World) (b : Nat) (D : Nat → Prop) (s : Qk.Sts) : Prop where
  k : Lks wr b D s
  bel : Below w.heap.size w wr
  lo : ∀ g, D g → w.heap.size ≤ g
theorem Lw.nxt {w wr w' : World} {b : Nat} {D D' : Nat → Prop} {s s' : Qk.Sts} (h : Lw w wr b D s) (hk : Lks w' b D' s') (hn : Nxt D wr D' w') : Lw w w' b D' s' :=
  ⟨hk, ⟨hn.tch.os.trans h.bel.os, hn.tch.tape.trans h.bel.tape, hn.tch.output.trans h.bel.output, Nat.le_trans h.bel.size hn.tch.size, fun k hk2 => (hn.tch.block k (Nat.lt_of_lt_of_le hk2 h.bel.size) (fun hd => by have := h.lo k hd; omega)).trans (h.bel.block k hk2)⟩,
    fun g hg => (hn.new g hg).elim (h.lo g) (fun hl => Nat.le_trans h.bel.size hl)⟩
theorem Lw.later {w wr w' : World} {b : Nat} {D : Nat → Prop} {s : Qk.Sts} (h : Lw w wr b D s) (hb : Below wr.heap.size wr w') : Lw w w' b D s := h.nxt (h.k.later hb) (Nxt.below hb)

set_option maxHeartbeats 2000000 in
theorem do_any (w : World) (b : Nat) (D : Nat → Prop) (s : Qk.Sts) (ac : QAc) (hS : ac.key.size ≤ 1000) (h : Lks w b D s) :
    Calls Try.prog 19 #[.pointer (some ⟨b, 0, none⟩), .agg #[.bool ac.fr, .int .i64 ac.who, .string ac.key, .bool ac.wr]] w fun e w' => e = .returned (.tuple #[]) ∧ ∃ D', Lks w' b D' (Qk.stepA s ac) ∧ Nxt D w D' w' := by
  unfold Qk.stepA Qk.step
  obtain ⟨fr, who, K, z⟩ := ac
  dsimp only at hS ⊢
  have b1 := below1 w (.cells #[.bool fr, .int .i64 who, .string K, .bool z] 31)
  have hbx := Has.new w (.cells #[.bool fr, .int .i64 who, .string K, .bool z] 31)
  have h1 := h.later b1
  obtain ⟨W, hW⟩ : ∃ W, W = w.alloc (.cells #[.bool fr, .int .i64 who, .string K, .bool z] 31) := ⟨_, rfl⟩
  rw [← hW] at b1 hbx h1
  have t0 : W.cell? ⟨w.heap.size, 0, none⟩ = some (.bool fr) := hbx.cell 0
  have t1 : W.cell? ⟨w.heap.size, 1, none⟩ = some (.int .i64 who) := hbx.cell 1
  have t2 : W.cell? ⟨w.heap.size, 2, none⟩ = some (.string K) := hbx.cell 2
  have t3 : W.cell? ⟨w.heap.size, 3, none⟩ = some (.bool z) := hbx.cell 3
  have HB := Lib.hid (Nxt.below (O := D) b1)
  have HW := Lib.hid hW
  cases fr with
  | true =>
    have HC := Lib.hid (freeA_any W b D s K hS who h1)
    clear h h1 hbx b1 hW hS
    go_enter Try.func19, Try.ntmps19
    go_wp2_with fail
    rw [← HW.out]
    go_wp2_with fail
    refine HC.out.mono ?_
    rintro e w2 ⟨v, D', rfl, -, hl, hn, -⟩
    have HF := Lib.hid (And.intro hl (HB.out.trans hn))
    clear hl hn HC
    go_wp2
    refine bodyPost_ret (results_none rfl _ _ _) rfl ?_
    exact ⟨rfl, D', HF.out.1, HF.out.2⟩
  | false =>
    have HC := Lib.hid (ask_any W b D s K hS who z h1)
    clear h h1 hbx b1 hW hS
    go_enter Try.func19, Try.ntmps19
    go_wp2_with fail
    rw [← HW.out]
    go_wp2_with fail
    refine HC.out.mono ?_
    rintro e w2 ⟨D', rfl, hl, hn⟩
    have HF := Lib.hid (And.intro hl (HB.out.trans hn))
    clear hl hn HC
    go_wp2
    go_end0
    exact ⟨rfl, D', HF.out.1, HF.out.2⟩
end Go.Proofs.Ytoipmdemicdhoaa
