/- Contracts of sector.New, Crash, Sync. -/
import Derived.Test.YthbiibinmofmfaaEset
import Derived.Test.YthbiibinmofmfaaErep

namespace Go.Proofs.Ythbiibinmofmfaa
set_option maxRecDepth 100000
open Go.RowKit

set_option maxHeartbeats 2000000 in
theorem crash_any (w : World) (S : Nat → Prop) (b : Nat) (d : Ek.Dk) (ksv : Value) (ks : List Int) (h : Dsk w S b d) (hks : Ks w ksv ks) :
    Calls Try.prog 15 #[.pointer (some ⟨b, 0, none⟩), ksv] w (DP w S b (Ek.crash d (Ek.nth ks)) (.int .i64 0)) := by
  have HS := Lib.hid (settle_any w S b d ksv ks h hks)
  have hok := Lib.hid (Ek.crash_ok h.ok (Ek.nth ks))
  have h1 := h.ok.lo
  obtain ⟨ka, kcap, rfl, hkx⟩ := hks
  obtain ⟨bm, bl, ns, lo, fs, hh, hrest⟩ := h
  obtain ⟨c0, _⟩ := has6 hh
  clear hh hrest hkx
  go_enter Try.func15, Try.ntmps15
  go_wp2_with fail
  refine (made_yes w b d.n c0 h1).mono ?_
  rintro e w' ⟨rfl, rfl⟩
  go_wp2_with fail
  refine HS.out.mono ?_
  rintro e w1 ⟨rfl, S1, hd1, ht1, hs1⟩
  have hi1 := hd1.in
  have hok1 := hd1.ok
  have H := hd1
  obtain ⟨bm1, bl1, ns1, lo1, fs1, hh1, _⟩ := hd1
  obtain ⟨_, _, _, _, c4, c5, _, _, _, f4, f5⟩ := has6 hh1
  have q1 : Ek.Ok { Ek.settled d (Ek.nth ks) with left := -1 } := ⟨hok1.lo, hok1.hi, hok1.sure, hok1.loose, by simp, by simp, hok1.count, hok1.used⟩
  have hq : Dsk ((w1.setCell ⟨b, 4, none⟩ (.int .i64 (-1))).setCell ⟨b, 5, none⟩ (.bool false)) S1 b (Ek.crash d (Ek.nth ks)) := (H.set4 (-1) q1).set5 false hok.out
  have HQ : Hid (DP w S b (Ek.crash d (Ek.nth ks)) (.int .i64 0) (.returned (.int .i64 0)) ((w1.setCell ⟨b, 4, none⟩ (.int .i64 (-1))).setCell ⟨b, 5, none⟩ (.bool false))) :=
    ⟨rfl, S1, hq, ht1.then (((Tch.refl S1 w1).setCell (p := ⟨b, 4, none⟩) hi1 _).setCell (p := ⟨b, 5, none⟩) hi1 _) (fun i hi => (hs1 i hi).elim Or.inl (fun x => Or.inr x.1)), fun k hk => (hs1 k hk).imp id (fun x => ⟨x.1, by simpa using x.2⟩)⟩
  clear hq q1 H hh1 hok1 hi1 hs1 ht1 HS hok
  go_wp2_with fail
  go_ret
  exact HQ.out

theorem settleTo_congr {s : Nat → List Nat} {l : List (Nat × List Nat)} {keep keep' : Nat → Int} (n : Nat) (h : ∀ k, k < n → keep k = keep' k) : Ek.settleTo s l keep n = Ek.settleTo s l keep' n := by
  induction n with
  | zero => rfl
  | succ n ih =>
    simp only [Ek.settleTo]
    rw [ih (fun k hk => h k (by omega)), h n (by omega)]

theorem repeat_done (b cap m : Nat) (hm : m ≤ 1000) (w : World) (hb : b < w.heap.size) (hc : w.cell? ⟨b, 0, none⟩ = some (.int .i64 1)) :
    Calls Try.prog 59 #[.slice (some ⟨b, 0, none⟩) 1 cap, .int .i64 (m : Int)] w (RepPost w 1 m) := by
  rcases Nat.eq_zero_or_pos m with rfl | h
  · exact repeat_none b cap w
  · exact repeat_one b cap 1 m h hm w hb hc
theorem ks_rep {w : World} {g m : Nat} (h : Has w g (nums (List.replicate m 1))) (hm : m ≤ 1000) : Ks w (.slice (some ⟨g, 0, none⟩) m m) (List.replicate m (1 : Int)) := by
  refine ⟨some ⟨g, 0, none⟩, m, by rw [List.length_replicate], by rw [List.length_replicate]; omega, fun k hk => ?_, fun _ => ⟨g, 0, rfl, fun i hi => ?_⟩⟩
  · rw [List.eq_of_mem_replicate hk]; omega
  · rw [List.length_replicate] at hi
    rw [Nat.zero_add, nums_cell h i (by rw [List.length_replicate]; exact hi), List.getElem?_replicate_of_lt hi, List.getElem?_replicate_of_lt hi]
    rfl

set_option maxHeartbeats 2000000 in
theorem sync_any (w : World) (S : Nat → Prop) (b : Nat) (d : Ek.Dk) (h : Dsk w S b d) (hu : d.used ≤ 1000) :
    Calls Try.prog 33 #[.pointer (some ⟨b, 0, none⟩)] w (DP w S b (Ek.sync d) (.int .i64 (Ek.changeE d))) := by
  have HC := Lib.hid (change_any w S b d h)
  have h1 := h.ok.lo
  have hcnt := h.ok.count
  obtain ⟨bm, bl, ns, lo, fs, hh, hrest⟩ := h
  obtain ⟨c0, _⟩ := has6 hh
  clear hh hrest
  by_cases he : Ek.changeE d = 0
  · have e1 : Ek.sync d = Ek.settled (Ek.change d) (fun _ => 1) := by unfold Ek.sync; rw [if_pos he]
    rw [e1]
    rw [he] at HC ⊢
    clear he e1
    go_enter Try.func33, Try.ntmps33
    go_wp2_with fail
    refine (made_yes w b d.n c0 h1).mono ?_
    rintro e w' ⟨rfl, rfl⟩
    go_wp2_with fail
    refine HC.out.mono ?_
    rintro e w1 ⟨rfl, S1, hd1, ht1, hs1⟩
    have HT := Lib.hid (And.intro ht1 hs1)
    have hd2 := hd1.later (below1 w1 (.cells #[.int .i64 1] 3))
    obtain ⟨bm1, bl1, ns1, lo1, fs1, hh1, _, _, _, ho1, _⟩ := hd1
    obtain ⟨la, lcap, rfl, _⟩ := own_len ho1
    have hlen : (Ek.change d).loose.length ≤ 1000 := by rw [Ek.change_loose]; omega
    obtain ⟨_, _, c2, _⟩ := has6 (hh1.alloc (.cells #[.int .i64 1] 3))
    have hx := (Has.new w1 (.cells #[.int .i64 1] 3)).one.1
    have HR := Lib.hid (repeat_done w1.heap.size 1 _ hlen _ (by simp) hx)
    have HD := Lib.hid hd2
    have HL := Lib.hid hlen
    obtain ⟨m, hm⟩ : ∃ m, m = (Ek.change d).loose.length := ⟨_, rfl⟩
    rw [← hm] at HR HL c2
    have HM := Lib.hid hm
    clear hh1 ho1 ht1 hs1 hd2 hlen hm hx hcnt hu
    go_wp2_with fail
    refine HR.out.mono ?_
    rintro e w2 ⟨g, rfl, hg, hgs, hb2⟩
    have HS := Lib.hid (settle_any w2 S1 b _ _ _ (HD.out.later hb2) (ks_rep hg HL.out))
    have HB2 := Lib.hid hb2
    clear hg hgs hb2 HR HD
    go_wp2_with fail
    refine HS.out.mono ?_
    intro e w3 hp
    have e3 := hp.1
    subst e3
    have heq : Ek.settled (Ek.change d) (Ek.nth (List.replicate m 1)) = Ek.settled (Ek.change d) (fun _ => 1) := by
      unfold Ek.settled
      rw [settleTo_congr _ (keep' := fun _ => 1) (fun k hk => by
        unfold Ek.nth
        rw [List.getElem?_replicate_of_lt (by rw [HM.out]; exact hk)]; rfl)]
    rw [heq] at hp
    obtain ⟨ht1, hs1⟩ := HT.out
    have hb := HB2.out
    have hsz : w1.heap.size ≤ w2.heap.size := by have := hb.size; simp at this; omega
    have hfin := DP.from hp (((ht1.alloc (.cells #[.int .i64 1] 3)).trans (Tch.of_below hb)) : Tch S w w2) (fun k hk => (hs1 k hk).imp id (fun x => ⟨x.1, by omega⟩))
    obtain ⟨_, S3, q1, q2, q3⟩ := hfin
    have HQ : Hid (DP w S b (Ek.settled (Ek.change d) (fun _ => 1)) (.int .i64 0) (.returned (.int .i64 0)) w3) := ⟨rfl, S3, q1, q2, q3⟩
    clear hp heq ht1 hs1 hb hsz q1 q2 q3 HT HS HB2
    go_wp2_with fail
    go_ret
    exact HQ.out
  · have e1 : Ek.sync d = Ek.change d := by unfold Ek.sync; rw [if_neg he]
    rw [e1]
    have hne : (Ek.changeE d != 0) = true := by rw [bne_iff_ne]; exact he
    generalize Ek.changeE d = ce at HC hne ⊢
    clear he e1 hcnt hu
    go_enter Try.func33, Try.ntmps33
    go_wp2_with fail
    refine (made_yes w b d.n c0 h1).mono ?_
    rintro e w' ⟨rfl, rfl⟩
    go_wp2_with fail
    refine HC.out.mono ?_
    intro e w1 hp
    have e3 := hp.1
    subst e3
    have HQ := Lib.hid hp
    clear hp
    go_wp2_with fail
    go_ret
    exact HQ.out
end Go.Proofs.Ythbiibinmofmfaa

/- Contracts of sector.New; of the calls of no disk. -/
namespace Go.Proofs.Ythbiibinmofmfaa
set_option maxRecDepth 100000
open Go.RowKit

/-- A new disk. -/
def NewPost (w : World) (n : Nat) (e : Ending) (w' : World) : Prop :=
  ∃ b S, e = .returned (.tuple #[.pointer (some ⟨b, 0, none⟩), .int .i64 0]) ∧ Dsk w' S b (Ek.fresh n) ∧ (∀ k, S k → w.heap.size ≤ k ∧ k < w'.heap.size) ∧ Below w.heap.size w w'

theorem new_dsk (w : World) (n : Nat) (h1 : 1 ≤ n) (h2 : n ≤ 8192) :
    Dsk (((w.alloc (.map #[] 0)).alloc (.map #[] 0)).alloc (.cells #[.int .i64 (n : Int), .map (some w.heap.size), .slice none 0 0, .map (some (w.heap.size + 1)), .int .i64 (-1), .bool false] 62)) (fun k => w.heap.size ≤ k ∧ k < w.heap.size + 3) (w.heap.size + 1 + 1) (Ek.fresh n) := by
  have a1 := Has.new ((w.alloc (.map #[] 0)).alloc (.map #[] 0)) (.cells #[.int .i64 (n : Int), .map (some w.heap.size), .slice none 0 0, .map (some (w.heap.size + 1)), .int .i64 (-1), .bool false] 62)
  have a2 := (Mp.new (w.alloc (.map #[] 0))).alloc (.cells #[.int .i64 (n : Int), .map (some w.heap.size), .slice none 0 0, .map (some (w.heap.size + 1)), .int .i64 (-1), .bool false] 62)
  rw [show ((w.alloc (.map #[] 0)).alloc (.map #[] 0)).heap.size = w.heap.size + 1 + 1 by simp] at a1
  rw [show (w.alloc (.map #[] 0)).heap.size = w.heap.size + 1 by simp] at a2
  exact ⟨w.heap.size, w.heap.size + 1, 0, .slice none 0 0, fun _ => none, a1, ((Mp.new w).alloc _).alloc _, fun i => Or.inr ⟨rfl, rfl⟩, a2, ⟨rfl, Or.inl ⟨rfl, rfl⟩⟩, ⟨by omega, by omega⟩, ⟨by omega, by omega⟩, ⟨by omega, by omega⟩, by omega, fun g hg => (by cases hg), Nat.zero_le _, Ek.fresh_ok n h1 h2⟩

set_option maxHeartbeats 2000000 in
theorem new_good (w : World) (n : Nat) (h1 : 1 ≤ n) (h2 : n ≤ 8192) : Calls Try.prog 6 #[.int .i64 (n : Int)] w (NewPost w n) := by
  have HD := Lib.hid (new_dsk w n h1 h2)
  have HB := Lib.hid (below3 w (.map #[] 0) (.map #[] 0) (.cells #[.int .i64 (n : Int), .map (some w.heap.size), .slice none 0 0, .map (some (w.heap.size + 1)), .int .i64 (-1), .bool false] 62))
  have d1 : decide ((n : Int) < 1) = false := decide_eq_false (by omega)
  have d2 : decide ((8192 : Int) < (n : Int)) = false := decide_eq_false (by omega)
  have hmm := @run_makeMap Try.prog
  clear h1 h2
  go_enter Try.func6, Try.ntmps6
  go_wp2_with fail
  go_ret2
  exact ⟨_, _, rfl, HD.out, fun k hk => ⟨hk.1, by have := hk.2; simp; omega⟩, HB.out⟩

set_option maxHeartbeats 2000000 in
theorem new_bad (w : World) (n : Int) (h : n < 1 ∨ 8192 < n) : Calls Try.prog 6 #[.int .i64 n] w fun e w' => e = .returned (.tuple #[.pointer none, .int .i64 2]) ∧ w = w' := by
  by_cases h1 : n < 1
  · have d1 : decide (n < 1) = true := decide_eq_true h1
    clear h h1
    go_enter Try.func6, Try.ntmps6
    go_wp2_with fail
    go_ret2
    exact ⟨rfl, rfl⟩
  · have d1 : decide (n < 1) = false := decide_eq_false h1
    have d2 : decide ((8192 : Int) < n) = true := decide_eq_true (by omega)
    clear h h1
    go_enter Try.func6, Try.ntmps6
    go_wp2_with fail
    go_ret2
    exact ⟨rfl, rfl⟩

/-- A pointer to no disk: nil, or one that nothing made. -/
def NoD (w : World) (v : Value) : Prop := v = .pointer none ∨ ∃ b, v = .pointer (some ⟨b, 0, none⟩) ∧ w.cell? ⟨b, 0, none⟩ = some (.int .i64 0)
theorem nod_made {w : World} {v : Value} (h : NoD w v) : Calls Try.prog 36 #[v] w fun e w' => e = .returned (.bool false) ∧ w = w' := by
  rcases h with rfl | ⟨b, rfl, hc⟩
  · exact made_nil w
  · exact made_no w b hc

set_option maxHeartbeats 1000000 in
theorem nod_len {w : World} {v : Value} (h : NoD w v) : Calls Try.prog 28 #[v] w fun e w' => e = .returned (.int .i64 0) ∧ w = w' := by
  have HM := Lib.hid (nod_made h)
  clear h
  go_enter Try.func28, Try.ntmps28
  go_wp2_with fail
  refine HM.out.mono ?_
  rintro e w' ⟨rfl, rfl⟩
  go_wp2_with fail
  go_ret
  exact ⟨rfl, rfl⟩
set_option maxHeartbeats 1000000 in
theorem nod_loose {w : World} {v : Value} (h : NoD w v) : Calls Try.prog 42 #[v] w fun e w' => e = .returned (.int .i64 0) ∧ w = w' := by
  have HM := Lib.hid (nod_made h)
  clear h
  go_enter Try.func42, Try.ntmps42
  go_wp2_with fail
  refine HM.out.mono ?_
  rintro e w' ⟨rfl, rfl⟩
  go_wp2_with fail
  go_ret
  exact ⟨rfl, rfl⟩
set_option maxHeartbeats 1000000 in
theorem nod_dark {w : World} {v : Value} (h : NoD w v) : Calls Try.prog 43 #[v] w fun e w' => e = .returned (.bool false) ∧ w = w' := by
  have HM := Lib.hid (nod_made h)
  clear h
  go_enter Try.func43, Try.ntmps43
  go_wp2_with fail
  refine HM.out.mono ?_
  rintro e w' ⟨rfl, rfl⟩
  go_wp2_with fail
  go_ret
  exact ⟨rfl, rfl⟩
set_option maxHeartbeats 1000000 in
theorem nod_sync {w : World} {v : Value} (h : NoD w v) : Calls Try.prog 33 #[v] w fun e w' => e = .returned (.int .i64 1) ∧ w = w' := by
  have HM := Lib.hid (nod_made h)
  clear h
  go_enter Try.func33, Try.ntmps33
  go_wp2_with fail
  refine HM.out.mono ?_
  rintro e w' ⟨rfl, rfl⟩
  go_wp2_with fail
  go_ret
  exact ⟨rfl, rfl⟩
set_option maxHeartbeats 1000000 in
theorem nod_crash {w : World} {v k : Value} (h : NoD w v) : Calls Try.prog 15 #[v, k] w fun e w' => e = .returned (.int .i64 1) ∧ w = w' := by
  have HM := Lib.hid (nod_made h)
  clear h
  go_enter Try.func15, Try.ntmps15
  go_wp2_with fail
  refine HM.out.mono ?_
  rintro e w' ⟨rfl, rfl⟩
  go_wp2_with fail
  go_ret
  exact ⟨rfl, rfl⟩
set_option maxHeartbeats 1000000 in
theorem nod_write {w : World} {v k i : Value} (h : NoD w v) : Calls Try.prog 39 #[v, i, k] w fun e w' => e = .returned (.int .i64 1) ∧ w = w' := by
  have HM := Lib.hid (nod_made h)
  clear h
  go_enter Try.func39, Try.ntmps39
  go_wp2_with fail
  refine HM.out.mono ?_
  rintro e w' ⟨rfl, rfl⟩
  go_wp2_with fail
  go_ret
  exact ⟨rfl, rfl⟩
set_option maxHeartbeats 1000000 in
theorem nod_read {w : World} {v i : Value} (h : NoD w v) : Calls Try.prog 21 #[v, i] w fun e w' => e = .returned (.tuple #[.slice none 0 0, .int .i64 1]) ∧ w = w' := by
  have HM := Lib.hid (nod_made h)
  clear h
  go_enter Try.func21, Try.ntmps21
  go_wp2_with fail
  refine HM.out.mono ?_
  rintro e w' ⟨rfl, rfl⟩
  go_wp2_with fail
  go_ret2
  exact ⟨rfl, rfl⟩
set_option maxHeartbeats 1000000 in
theorem nod_fuse {w : World} {v : Value} {n : Int} (h : NoD w v) : Calls Try.prog 13 #[v, .int .i64 n] w fun e w' => e = .returned (.tuple #[]) ∧ w = w' := by
  have HM := Lib.hid (nod_made h)
  clear h
  go_enter Try.func13, Try.ntmps13
  go_wp2_with fail
  refine HM.out.mono ?_
  rintro e w' ⟨rfl, rfl⟩
  go_wp2_with fail
  exact ⟨rfl, .tuple #[], by simp [results, Try.results13, go_sem], rfl, rfl⟩
end Go.Proofs.Ythbiibinmofmfaa
