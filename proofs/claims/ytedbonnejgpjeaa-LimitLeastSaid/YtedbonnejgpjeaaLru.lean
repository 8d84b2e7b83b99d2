/- Contract of the document's Used. -/
import Derived.Test.YtedbonnejgpjeaaLnl
namespace Go.Proofs.Ytedbonnejgpjeaa
open Go.RowKit

namespace Lm
/-- The place where a number is laid in. -/
theorem ins_at (x : Nat) : ∀ (S : List Nat) (k : Nat), k ≤ S.length → (∀ (j y : Nat), j < k → S[j]? = some y → y ≤ x) → (∀ y, S[k]? = some y → x < y) → ins (fun x => x) x S = S.take k ++ [x] ++ S.drop k
  | [], k, h, _, _ => by
    have : k = 0 := by simpa using h
    subst this; rfl
  | y :: S, 0, _, _, h2 => by
    have := h2 y rfl
    simp only [ins, if_pos this, List.take_zero, List.drop_zero, List.nil_append, List.cons_append]
  | y :: S, k + 1, h, h1, h2 => by
    have h0 := h1 0 y (by omega) rfl
    unfold ins
    rw [if_neg (by omega), ins_at x S k (by simpa using h) (fun j z hj hz => h1 (j + 1) z (by omega) (by rw [List.getElem?_cons_succ]; exact hz)) (fun z hz => h2 z (by rw [List.getElem?_cons_succ]; exact hz))]
    simp
/-- The used ones' numbers, sorted. -/
def wts (fs : List Nat) (k : Nat) : List Nat := isrt (fun x => x) ((usd fs k).map Prod.fst)
theorem wts_skip (fs : List Nat) (k : Nat) (h : fs[k]?.getD 0 = 0) : wts fs (k + 1) = wts fs k := by unfold wts; rw [usd, if_pos h, List.append_nil]
theorem wts_more (fs : List Nat) (k : Nat) (h : fs[k]?.getD 0 ≠ 0) : wts fs (k + 1) = ins (fun x => x) (fs[k]?.getD 0) (wts fs k) := by
  unfold wts isrt
  rw [usd, if_neg h, List.map_append, List.foldl_append]; rfl
theorem wts_length (fs : List Nat) (k : Nat) : (wts fs k).length = (usd fs k).length := by unfold wts; rw [isrt_length, List.length_map]
theorem wts_srt (fs : List Nat) : (srt fs).map Prod.fst = wts fs fs.length := by
  unfold srt wts
  exact map_isrt Prod.fst (fun x => x) Prod.fst (fun x y => Iff.rfl) _
end Lm

theorem Nl.get {w : World} {a : Option Addr} {n cap : Nat} {xs : List Nat} (h : Nl w (.slice a n cap) xs) (k : Nat) (hk : k < n) : ∃ b off x, a = some ⟨b, off, none⟩ ∧ b < w.heap.size ∧ xs[k]? = some x ∧ w.cell? ⟨b, off + k, none⟩ = some (.int .i64 (x : Int)) := by
  obtain ⟨a', len, cap', e, h1, h2, h3, h4, h5⟩ := h
  cases e
  obtain ⟨b, off, rfl, hlt, hc⟩ := h5 (by omega)
  exact ⟨b, off, _, rfl, hlt, List.getElem?_eq_getElem (by omega), hc k _ (List.getElem?_eq_getElem (by omega))⟩

/-- One list's numbers behind the call's own. -/
theorem Io.all {w wr : World} {g cap n : Nat} {xs ys : List Nat} (h : Io w.heap.size wr (.slice (some ⟨g, 0, none⟩) n cap) xs) (hb : Below w.heap.size w wr) (hn : n = xs.length) {a : Option Addr} {m c : Nat} (hm : m = ys.length) (hnil : a = none → m = 0 ∧ c = 0)
    (hc : 0 < m → ∃ b off, a = some ⟨b, off, none⟩ ∧ ∀ (i y : Nat), ys[i]? = some y → wr.cell? ⟨b, off + i, none⟩ = some (.int .i64 (y : Int))) (hl : n + m ≤ 5000) :
    ∃ g' cap' w2, (Builtin.append_ #[22, 22] 22 #[.slice (some ⟨g, 0, none⟩) n cap, .slice a m c]).run Try.prog wr = .ok (.slice (some ⟨g', 0, none⟩) (n + m) cap') w2 ∧
      Hid (Io w.heap.size w2 (.slice (some ⟨g', 0, none⟩) (n + m) cap') (xs ++ ys)) ∧ Below w.heap.size w w2 := by
  have h' : wr.ownsRow w.heap.size 3 1 (.slice (some ⟨g, 0, none⟩) n cap) xs.length (vi xs) := h
  subst hn hm
  obtain ⟨i0, hi, hz0, hz1, hz2⟩ := info_parts Try.infoInt
  obtain ⟨g', cap', w2, hrun, ho, hg⟩ := run_append_mine (P := Try.prog) (w := wr) w.heap.size 22 22 3 i0 (.int .i64 0) 1 8 Try.underlying22 hi hz0 hz1 hz2 rfl (by decide)
    g cap xs.length (vi xs) h' a ys.length c (vi ys) (by rw [vi_length]; omega) hnil
    (fun h0 => by
      obtain ⟨b, off, rfl, hh⟩ := hc h0
      refine ⟨_, rfl, fun j u hj => ?_⟩
      have hjl := (List.getElem?_eq_some_iff.1 hj).1
      rw [vi_length] at hjl
      have eq : ys[j]? = some (ys[j]'hjl) := List.getElem?_eq_getElem _
      simp only [vi, List.getElem?_map, eq, Option.map_some, Option.some.injEq] at hj
      subst hj
      have e : (⟨b, off, none⟩ : Addr).add j = ⟨b, off + j, none⟩ := by cases j <;> simp [Addr.add]
      rw [e]; exact hh j _ eq)
    (fun u hu => by simp only [vi, List.mem_map] at hu; obtain ⟨x, _, rfl⟩ := hu; rfl) (by unfold maxLen; omega) (by omega) (hb.size)
  refine ⟨g', cap', w2, hrun, ?_, hb.grown hg hb.size (fun q e => (World.ownsRow.lt h' q e).1)⟩
  show w2.ownsRow _ _ _ _ (xs ++ ys).length (vi (xs ++ ys))
  rw [List.length_append, show vi (xs ++ ys) = vi xs ++ vi ys by simp [vi]]; exact ho

/-- The three steps by which a number is laid in. -/
theorem lay_in {wr : World} {a : Option Addr} {n cap : Nat} {S : List Nat} (h : Nl wr (.slice a n cap) S) (k x : Nat) (hk : k ≤ n) (hn : n ≤ 288) (c2 r tot : Nat) (hr : n - k = r) (htot : k + 1 + r = tot) (a2 : Option Addr) (ha2 : 0 < r → ∃ b off, a = some ⟨b, off, none⟩ ∧ a2 = some ⟨b, off + k, none⟩) (hnil : a2 = none → r = 0 ∧ c2 = 0) (hcn : a = none → cap = 0) :
    ∃ g1 p1 w1, (Builtin.append_ #[22, 22] 22 #[.slice (some ⟨wr.heap.size, 0, none⟩) 0 0, .slice a k cap]).run Try.prog (wr.alloc (.cells #[] 3)) = .ok (.slice (some ⟨g1, 0, none⟩) k p1) w1 ∧ Below wr.heap.size wr w1 ∧
      ∃ g2 p2 w2, (Builtin.append_ #[22, 22] 22 #[.slice (some ⟨g1, 0, none⟩) k p1, .slice (some ⟨w1.heap.size, 0, none⟩) 1 1]).run Try.prog (w1.alloc (.cells #[.int .i64 (x : Int)] 3)) = .ok (.slice (some ⟨g2, 0, none⟩) (k + 1) p2) w2 ∧
        ∃ g3 p3 w3, (Builtin.append_ #[22, 22] 22 #[.slice (some ⟨g2, 0, none⟩) (k + 1) p2, .slice a2 r c2]).run Try.prog w2 = .ok (.slice (some ⟨g3, 0, none⟩) tot p3) w3 ∧
          Nl w3 (.slice (some ⟨g3, 0, none⟩) tot p3) (S.take k ++ [x] ++ S.drop k) ∧ Below wr.heap.size wr w3 := by
  obtain ⟨a', len, cap', e, h1, h2, h3, h4, h5⟩ := h
  cases e
  subst hr htot
  have hb0 := below1 wr (.cells #[] 3)
  have hown : Io wr.heap.size (wr.alloc (.cells #[] 3)) (.slice (some ⟨wr.heap.size, 0, none⟩) 0 0) [] := World.ownsRow_lit (base := wr.heap.size) (e := 3) (size := 1) wr #[] 0 (Nat.le_refl _) (by unfold maxLen; omega) rfl
  obtain ⟨g1, p1, w1, r1, o1, b1⟩ := Io.all (w := wr) (ys := S.take k) hown hb0 rfl (a := a) (m := k) (c := cap) (by rw [List.length_take]; omega) (fun e => ⟨by have := h4 e; omega, hcn e⟩)
    (fun h0 => by
      obtain ⟨b, off, rfl, hlt, hc⟩ := h5 (by omega)
      refine ⟨b, off, rfl, fun i y hi => ?_⟩
      have hil := (List.getElem?_eq_some_iff.1 hi).1
      rw [List.length_take] at hil
      rw [List.getElem?_take_of_lt (by omega)] at hi
      rw [hb0.cell (p := ⟨b, off + i, none⟩) hlt]; exact hc i y hi) (by omega)
  have e0 : 0 + k = k := by omega
  rw [e0] at r1 o1
  have hlk : (S.take k).length = k := by rw [List.length_take]; omega
  obtain ⟨g2, p2, w2, r2, o2, b2⟩ := Io.more (w := wr) o1.out b1 x (by rw [List.nil_append, hlk]; omega)
  rw [List.nil_append] at r2 o2
  rw [hlk] at r2 o2
  obtain ⟨g3, p3, w3, r3, o3, b3⟩ := Io.all (w := wr) (ys := S.drop k) o2.out b2 (by rw [List.length_append, hlk]; rfl) (a := a2) (m := n - k) (c := c2) (by rw [List.length_drop]; omega) hnil
    (fun h0 => by
      obtain ⟨b', off', ea, ea2⟩ := ha2 h0
      obtain ⟨b, off, e, hlt, hc⟩ := h5 (by omega)
      rw [ea] at e; cases e
      refine ⟨b', off' + k, ea2, fun i y hi => ?_⟩
      rw [List.getElem?_drop] at hi
      rw [b2.cell (p := ⟨b', off' + k + i, none⟩) hlt, Nat.add_assoc]; exact hc _ y hi) (by omega)
  refine ⟨g1, p1, w1, r1, b1, g2, p2, w2, r2, g3, p3, w3, r3, ?_, b3⟩
  have hl : (S.take k ++ [x] ++ S.drop k).length = k + 1 + (n - k) := by simp [List.length_take, List.length_drop]; omega
  have := Io.nl o3.out (by rw [hl]; omega)
  exact this

set_option maxHeartbeats 4000000 in
theorem rused_any (zs : List Int) (s : Value) (w : World) (hz : Zl w s zs) (hv : Nums zs) :
    Calls Try.prog 24 #[s] w fun e w' => ∃ v, e = .returned v ∧ Nl w' v (Lm.wts (nat zs) zs.length) ∧ Below w.heap.size w w' := by
  obtain ⟨a1, n, c1, rfl, e1, _, _, d1⟩ := hz
  have h288 : n ≤ 288 := by have := hv.2.1; omega
  have hpos : 0 < n := by have := hv.1; omega
  obtain ⟨b1, o1, rfl, lt1, q1⟩ := d1 hpos
  rw [← e1]
  have E1 : Hid (∀ i, i < n → w.cell? ⟨b1, o1 + i, none⟩ = some (.int .i64 ((nat zs)[i]?.getD 0 : Nat)) ∧ (nat zs)[i]?.getD 0 ≤ 4294967295) := fun i hi => by
    have := hv.2.2 i (by omega)
    rw [q1 i hi, nat_get]
    exact ⟨by congr 2; omega, by omega⟩
  clear hv e1 d1 q1
  go_enter Try.func24, Try.ntmps24
  go_wp2
  go_loopw [3, 4] (fun s3 s4 wr => ∃ (k m cap : Nat) (u : Option Addr) (S : List Nat), k ≤ n ∧ s4 = .int .i64 (k : Int) ∧ s3 = .slice u m cap ∧ m ≤ 288 ∧ Hid (Unit → S = Lm.wts (nat zs) k) ∧ Hid (m = S.length) ∧ Hid (Nl wr (.slice u m cap) S) ∧ Hid (Below w.heap.size w wr) ∧ Hid (u = none ∨ ∃ b o, u = some ⟨b, o, none⟩)) (fun _ s _ => n - (intOf s).toNat)
  case atStart => exact ⟨0, 0, 0, none, [], Nat.zero_le _, rfl, rfl, Nat.zero_le _, fun _ => rfl, rfl, Nl.nil _, Below.refl _ _, Or.inl rfl⟩
  case round =>
    obtain ⟨k, m, cap, u, S, hk, rfl, rfl, hm, KS, KM, KN, KB, KU⟩ := hrel
    by_cases hlt : k < n
    · obtain ⟨g1, x1⟩ := E1.out k hlt
      have gx := (KB.out.cell (p := ⟨b1, o1 + k, none⟩) lt1).trans g1
      obtain ⟨x, hx⟩ : ∃ x, x = (nat zs)[k]?.getD 0 := ⟨_, rfl⟩
      rw [← hx] at gx x1
      have HX := Lib.hid hx
      clear g1 hx
      by_cases h0 : x = 0
      · have KS2 : Hid (Unit → S = Lm.wts (nat zs) (k + 1)) := fun _ => by rw [Lm.wts_skip _ _ (by rw [← HX.out]; exact h0)]; exact KS.out ()
        have hne : ((x : Int) == 0) = true := by simp [h0]
        clear KS h0 HX
        go_wp2_with fail
        go_roundw
        case rel => exact ⟨k + 1, m, cap, u, S, by omega, by go_num, rfl, hm, KS2, KM, KN, KB, KU⟩
        case measure => simp [intOf]; omega
      · have hne : ((x : Int) == 0) = false := by rw [beq_eq_false_iff_ne]; omega
        have hSl : m ≤ k := by have h1 := KM.out; rw [KS.out (), Lm.wts_length] at h1; have := Lm.usd_length (nat zs) k; omega
        go_wp2_with fail
        go_loopw [5] (fun s5 wx => ∃ j q : Nat, j ≤ m ∧ s5 = .int .i64 (j : Int) ∧ wx = wr.drewN q ∧ Hid (∀ (i y : Nat), i < j → S[i]? = some y → y ≤ x)) (fun s _ => m - (intOf s).toNat)
        case atStart => exact ⟨0, 0, Nat.zero_le _, rfl, rfl, fun i y hi => by omega⟩
        case round =>
          obtain ⟨j, q, hj, rfl, rfl, KJ⟩ := hrel
          by_cases hjm : j < m
          · obtain ⟨b, off, y, rfl, hb, hy, hcy⟩ := KN.out.get j hjm
            have hd0 : decide ((j : Int) < (m : Int)) = true := by simp; omega
            by_cases hyx : y ≤ x
            · have hd : decide ((y : Int) ≤ (x : Int)) = true := by simp; omega
              have hd' : decide (y ≤ x) = true := by simp; omega
              have KJ2 : Hid (∀ (i z : Nat), i < j + 1 → S[i]? = some z → z ≤ x) := fun i z hi hz => by
                by_cases e : i = j
                · subst e; rw [hy] at hz; cases hz; exact hyx
                · exact KJ.out i z (by omega) hz
              clear hy
              go_wp2_with fail
              go_quiet (fail)
              go_wp2_with fail
              go_roundw
              case rel => exact ⟨j + 1, _, by omega, by go_num, rfl, KJ2⟩
              case measure => simp [intOf]; omega
            · have hd : decide ((y : Int) ≤ (x : Int)) = false := by simp; omega
              have hd' : decide (y ≤ x) = false := by simp; omega
              have HI : Hid (Lm.ins (fun x => x) x S = S.take j ++ [x] ++ S.drop j) := Lm.ins_at x S j (by have := KM.out; omega) (fun i z => KJ.out i z) (fun z hz => by rw [hy] at hz; cases hz; omega)
              clear hy
              go_wp2_with fail
              go_quiet (fail)
              have hmc : m ≤ cap := by obtain ⟨_, _, _, e, _, h2, _⟩ := KN.out; cases e; exact h2
              obtain ⟨wq, hwq⟩ : ∃ wq, wq = (wr.drewN q).drewN nq := ⟨_, rfl⟩
              have hBq : Below wr.heap.size wr wq := by rw [hwq]; exact below_drewN (below_drewN (Below.refl _ _) q) nq
              rw [← hwq]
              have gxq := (hBq.cell (p := ⟨b1, o1 + k, none⟩) (Nat.lt_of_lt_of_le lt1 KB.out.size)).trans gx
              obtain ⟨g1, p1, w1, r1, hb1, g2, p2, w2, r2, g3, p3, w3, r3, hN, hb3⟩ := lay_in (KN.out.later hBq) j x (by omega) (by omega) (cap - j) (m - j) (j + 1 + (m - j)) (by omega) (by omega) (some ⟨b, off + j, none⟩) (fun _ => ⟨b, off, rfl, rfl⟩) (fun e => by cases e) (fun e => by cases e)
              have gx1 := (hb1.cell (p := ⟨b1, o1 + k, none⟩) (Nat.lt_of_lt_of_le (Nat.lt_of_lt_of_le lt1 KB.out.size) hBq.size)).trans gxq
              have R1 := Lib.hid r1
              have R2 := Lib.hid r2
              have R3 := Lib.hid r3
              have KB2 : Hid (Below w.heap.size w w3) := KB.out.trans ((hBq.trans (hb3.mono hBq.size)).mono KB.out.size)
              have hlen : (j + 1 + (m - j)) = (Lm.wts (nat zs) (k + 1)).length := by rw [Lm.wts_more _ _ (by rw [← HX.out]; exact h0), ← HX.out, ← KS.out (), (Lm.ins_perm _ x S).length_eq, List.length_cons]; have := KM.out; omega
              have hle : (j + 1 + (m - j)) ≤ 288 := by omega
              have KM2 : Hid ((j + 1 + (m - j)) = (S.take j ++ [x] ++ S.drop j).length) := by show _ = _; rw [← HI.out, (Lm.ins_perm _ x S).length_eq, List.length_cons]; have := KM.out; omega
              have KS2 : Hid (Unit → S.take j ++ [x] ++ S.drop j = Lm.wts (nat zs) (k + 1)) := fun _ => by rw [Lm.wts_more _ _ (by rw [← HX.out]; exact h0), ← HX.out, ← KS.out ()]; exact HI.out.symm
              have KN2 := Lib.hid hN
              clear hN r1 r2 r3 hwq hBq hb1 hb3 hlen KN KS KM HI HX gx KB
              have f1 : (0 : Int) ≤ (j : Int) := by omega
              have f2 : (j : Int) ≤ (m : Int) := by omega
              have f3 : (m : Int) ≤ (cap : Int) := by omega
              have f4 : (j : Int) ≤ (cap : Int) := by omega
              have f5 : ¬ cap = j := by omega
              have f6 : ¬ cap - j = 0 := by omega
              go_wp2_with (at_builtin; first | (refine wpList_append_known rfl (.tmp 35) (.tmp 38) 22 rfl _ _ _ _ rfl rfl R1.out ?_) | (refine wpList_append_known rfl (.tmp 40) (.tmp 45) 22 rfl _ _ _ _ rfl rfl R2.out ?_) | (refine wpList_append_known rfl (.tmp 47) (.tmp 50) 22 rfl _ _ _ _ rfl rfl R3.out ?_))
              go_roundw
              case rel => exact ⟨k + 1, _, _, _, _, by omega, by go_num, rfl, hle, KS2, KM2, KN2, KB2, Or.inr ⟨_, _, rfl⟩⟩
              case measure => simp [intOf]; omega
          · obtain rfl : j = m := by omega
            have hd0 : decide ((j : Int) < (j : Int)) = false := by simp
            have HI : Hid (Lm.ins (fun x => x) x S = S.take j ++ [x] ++ S.drop j) := Lm.ins_at x S j (by have := KM.out; omega) (fun i z => KJ.out i z) (fun z hz => by have := (List.getElem?_eq_some_iff.1 hz).1; have := KM.out; omega)
            go_wp2_with fail
            go_quiet (fail)
            have hmc : j ≤ cap := by obtain ⟨_, _, _, e, _, h2, _⟩ := KN.out; cases e; exact h2
            rcases KU.out with rfl | ⟨ab, ao, rfl⟩
            · obtain ⟨rfl, rfl⟩ : j = 0 ∧ cap = 0 := by obtain ⟨_, _, _, e, _, _, _, h4, _⟩ := KN.out; cases e; exact h4 rfl
              obtain ⟨wq, hwq⟩ : ∃ wq, wq = (wr.drewN q).drewN nq := ⟨_, rfl⟩
              have hBq : Below wr.heap.size wr wq := by rw [hwq]; exact below_drewN (below_drewN (Below.refl _ _) q) nq
              rw [← hwq]
              have gxq := (hBq.cell (p := ⟨b1, o1 + k, none⟩) (Nat.lt_of_lt_of_le lt1 KB.out.size)).trans gx
              obtain ⟨g1, p1, w1, r1, hb1, g2, p2, w2, r2, g3, p3, w3, r3, hN, hb3⟩ := lay_in (KN.out.later hBq) 0 x (by omega) (by omega) 0 0 1 (by omega) (by omega) (none) (fun h => absurd h (by omega)) (fun _ => ⟨rfl, rfl⟩) (fun _ => rfl)
              have gx1 := (hb1.cell (p := ⟨b1, o1 + k, none⟩) (Nat.lt_of_lt_of_le (Nat.lt_of_lt_of_le lt1 KB.out.size) hBq.size)).trans gxq
              have R1 := Lib.hid r1
              have R2 := Lib.hid r2
              have R3 := Lib.hid r3
              have KB2 : Hid (Below w.heap.size w w3) := KB.out.trans ((hBq.trans (hb3.mono hBq.size)).mono KB.out.size)
              have hlen : 1 = (Lm.wts (nat zs) (k + 1)).length := by rw [Lm.wts_more _ _ (by rw [← HX.out]; exact h0), ← HX.out, ← KS.out (), (Lm.ins_perm _ x S).length_eq, List.length_cons]; have := KM.out; omega
              have hle : 1 ≤ 288 := by omega
              have KM2 : Hid (1 = (S.take 0 ++ [x] ++ S.drop 0).length) := by show _ = _; rw [← HI.out, (Lm.ins_perm _ x S).length_eq, List.length_cons]; have := KM.out; omega
              have KS2 : Hid (Unit → S.take 0 ++ [x] ++ S.drop 0 = Lm.wts (nat zs) (k + 1)) := fun _ => by rw [Lm.wts_more _ _ (by rw [← HX.out]; exact h0), ← HX.out, ← KS.out ()]; exact HI.out.symm
              have KN2 := Lib.hid hN
              clear hN r1 r2 r3 hwq hBq hb1 hb3 hlen KN KS KM HI HX gx KB
              go_wp2_with (at_builtin; first | (refine wpList_append_known rfl (.tmp 35) (.tmp 38) 22 rfl _ _ _ _ rfl rfl R1.out ?_) | (refine wpList_append_known rfl (.tmp 40) (.tmp 45) 22 rfl _ _ _ _ rfl rfl R2.out ?_) | (refine wpList_append_known rfl (.tmp 47) (.tmp 50) 22 rfl _ _ _ _ rfl rfl R3.out ?_))
              go_roundw
              case rel => exact ⟨k + 1, _, _, _, _, by omega, by go_num, rfl, hle, KS2, KM2, KN2, KB2, Or.inr ⟨_, _, rfl⟩⟩
              case measure => simp [intOf]; omega
            · by_cases hcj : cap = j
              · have HCJ := Lib.hid hcj
                obtain ⟨wq, hwq⟩ : ∃ wq, wq = (wr.drewN q).drewN nq := ⟨_, rfl⟩
                have hBq : Below wr.heap.size wr wq := by rw [hwq]; exact below_drewN (below_drewN (Below.refl _ _) q) nq
                rw [← hwq]
                have gxq := (hBq.cell (p := ⟨b1, o1 + k, none⟩) (Nat.lt_of_lt_of_le lt1 KB.out.size)).trans gx
                obtain ⟨g1, p1, w1, r1, hb1, g2, p2, w2, r2, g3, p3, w3, r3, hN, hb3⟩ := lay_in (KN.out.later hBq) j x (by omega) (by omega) 0 0 (j + 1) (by omega) (by omega) (some ⟨ab, ao, none⟩) (fun h => absurd h (by omega)) (fun e => by cases e) (fun e => by cases e)
                have gx1 := (hb1.cell (p := ⟨b1, o1 + k, none⟩) (Nat.lt_of_lt_of_le (Nat.lt_of_lt_of_le lt1 KB.out.size) hBq.size)).trans gxq
                have R1 := Lib.hid r1
                have R2 := Lib.hid r2
                have R3 := Lib.hid r3
                have KB2 : Hid (Below w.heap.size w w3) := KB.out.trans ((hBq.trans (hb3.mono hBq.size)).mono KB.out.size)
                have hlen : (j + 1) = (Lm.wts (nat zs) (k + 1)).length := by rw [Lm.wts_more _ _ (by rw [← HX.out]; exact h0), ← HX.out, ← KS.out (), (Lm.ins_perm _ x S).length_eq, List.length_cons]; have := KM.out; omega
                have hle : (j + 1) ≤ 288 := by omega
                have KM2 : Hid ((j + 1) = (S.take j ++ [x] ++ S.drop j).length) := by show _ = _; rw [← HI.out, (Lm.ins_perm _ x S).length_eq, List.length_cons]; have := KM.out; omega
                have KS2 : Hid (Unit → S.take j ++ [x] ++ S.drop j = Lm.wts (nat zs) (k + 1)) := fun _ => by rw [Lm.wts_more _ _ (by rw [← HX.out]; exact h0), ← HX.out, ← KS.out ()]; exact HI.out.symm
                have KN2 := Lib.hid hN
                clear hN r1 r2 r3 hwq hBq hb1 hb3 hlen KN KS KM HI HX gx KB
                have f1 : (0 : Int) ≤ (j : Int) := by omega
                have f3 : (j : Int) ≤ (cap : Int) := by omega
                have f6 : cap - j = 0 := by omega
                go_wp2_with (at_builtin; first | (refine wpList_append_known rfl (.tmp 35) (.tmp 38) 22 rfl _ _ _ _ rfl rfl R1.out ?_) | (refine wpList_append_known rfl (.tmp 40) (.tmp 45) 22 rfl _ _ _ _ rfl rfl R2.out ?_) | (refine wpList_append_known rfl (.tmp 47) (.tmp 50) 22 rfl _ _ _ _ rfl rfl R3.out ?_))
                go_roundw
                case rel => exact ⟨k + 1, _, _, _, _, by omega, by go_num, rfl, hle, KS2, KM2, KN2, KB2, Or.inr ⟨_, _, rfl⟩⟩
                case measure => simp [intOf]; omega
              · obtain ⟨wq, hwq⟩ : ∃ wq, wq = (wr.drewN q).drewN nq := ⟨_, rfl⟩
                have hBq : Below wr.heap.size wr wq := by rw [hwq]; exact below_drewN (below_drewN (Below.refl _ _) q) nq
                rw [← hwq]
                have gxq := (hBq.cell (p := ⟨b1, o1 + k, none⟩) (Nat.lt_of_lt_of_le lt1 KB.out.size)).trans gx
                obtain ⟨g1, p1, w1, r1, hb1, g2, p2, w2, r2, g3, p3, w3, r3, hN, hb3⟩ := lay_in (KN.out.later hBq) j x (by omega) (by omega) (cap - j) 0 (j + 1) (by omega) (by omega) (some ⟨ab, ao + j, none⟩) (fun h => absurd h (by omega)) (fun e => by cases e) (fun e => by cases e)
                have gx1 := (hb1.cell (p := ⟨b1, o1 + k, none⟩) (Nat.lt_of_lt_of_le (Nat.lt_of_lt_of_le lt1 KB.out.size) hBq.size)).trans gxq
                have R1 := Lib.hid r1
                have R2 := Lib.hid r2
                have R3 := Lib.hid r3
                have KB2 : Hid (Below w.heap.size w w3) := KB.out.trans ((hBq.trans (hb3.mono hBq.size)).mono KB.out.size)
                have hlen : (j + 1) = (Lm.wts (nat zs) (k + 1)).length := by rw [Lm.wts_more _ _ (by rw [← HX.out]; exact h0), ← HX.out, ← KS.out (), (Lm.ins_perm _ x S).length_eq, List.length_cons]; have := KM.out; omega
                have hle : (j + 1) ≤ 288 := by omega
                have KM2 : Hid ((j + 1) = (S.take j ++ [x] ++ S.drop j).length) := by show _ = _; rw [← HI.out, (Lm.ins_perm _ x S).length_eq, List.length_cons]; have := KM.out; omega
                have KS2 : Hid (Unit → S.take j ++ [x] ++ S.drop j = Lm.wts (nat zs) (k + 1)) := fun _ => by rw [Lm.wts_more _ _ (by rw [← HX.out]; exact h0), ← HX.out, ← KS.out ()]; exact HI.out.symm
                have KN2 := Lib.hid hN
                clear hN r1 r2 r3 hwq hBq hb1 hb3 hlen KN KS KM HI HX gx KB
                have f1 : (0 : Int) ≤ (j : Int) := by omega
                have f3 : (j : Int) ≤ (cap : Int) := by omega
                have f6 : ¬ cap - j = 0 := by omega
                go_wp2_with (at_builtin; first | (refine wpList_append_known rfl (.tmp 35) (.tmp 38) 22 rfl _ _ _ _ rfl rfl R1.out ?_) | (refine wpList_append_known rfl (.tmp 40) (.tmp 45) 22 rfl _ _ _ _ rfl rfl R2.out ?_) | (refine wpList_append_known rfl (.tmp 47) (.tmp 50) 22 rfl _ _ _ _ rfl rfl R3.out ?_))
                go_roundw
                case rel => exact ⟨k + 1, _, _, _, _, by omega, by go_num, rfl, hle, KS2, KM2, KN2, KB2, Or.inr ⟨_, _, rfl⟩⟩
                case measure => simp [intOf]; omega
    · obtain rfl : k = n := by omega
      go_wp2
      go_ret
      exact ⟨_, rfl, by rw [← KS.out ()]; exact KN.out, KB.out⟩
end Go.Proofs.Ytedbonnejgpjeaa
