/- Contract of valiselaw12.alike: the program's disk and the document's have the same. -/
import Derived.Test.YthbiibinmofmfaaYst0
import Derived.Test.YthbiibinmofmfaaZrhd
import Derived.BigQuiet

namespace Go.Proofs.Ythbiibinmofmfaa
set_option maxRecDepth 100000
open Go.RowKit

set_option maxRecDepth 100000 in
set_option maxHeartbeats 4000000 in
theorem zalike_any {w0 w : World} {b : Nat} {d : Ek.Dk} {v : Value} {E G F : Nat → Prop} {ws : World} (h : Bo w0 w b d v d E G F ws) :
    Calls Try.prog 20 #[.pointer (some ⟨b, 0, none⟩), v] w fun e w' => e = .returned (.bool true) ∧ Below w.heap.size w w' := by
  have hok := h.ly.lv.ok
  have hn8 := hok.hi
  have hll : d.loose.length ≤ 1000000 := by have := hok.used; have := hok.count; omega
  have HY := Lib.hid h.ly.lv
  have HV : Hid (∀ W, Below w.heap.size w W → ∀ i : Nat, Calls Try.prog 38 #[v, .int .i64 (i : Int)] W fun e w' => e = .returned (.tuple #[.string (strB (if Ek.readE d i = 0 then Ek.now d i else [])), .int .i64 (Ek.readE d i)]) ∧ Below W.heap.size W w') := fun W hb i => rdisk_read_any W G v d (h.doc.later hb) i
  obtain ⟨a, la, c, lc, rfl, -, -, -⟩ := h.doc
  unfold dv at HV ⊢
  have HB0 := Lib.hid (below1 w (.cells #[.slice a d.n c, .slice la d.loose.length lc, .int .i64 d.left, .bool d.dark] 32))
  have HM0 := Lib.hid (Has.new w (.cells #[.slice a d.n c, .slice la d.loose.length lc, .int .i64 d.left, .bool d.dark] 32))
  have HN : Hid (∀ W, Below w.heap.size w W → Calls Try.prog 28 #[.pointer (some ⟨b, 0, none⟩)] W fun e w' => e = .returned (.int .i64 (d.n : Int)) ∧ W = w') := fun W hb => lv_len (HY.out.later hb)
  have HL : Hid (∀ W, Below w.heap.size w W → Calls Try.prog 42 #[.pointer (some ⟨b, 0, none⟩)] W fun e w' => e = .returned (.int .i64 (d.loose.length : Int)) ∧ W = w') := fun W hb => lv_loose (HY.out.later hb)
  have HK : Hid (∀ W, Below w.heap.size w W → Calls Try.prog 43 #[.pointer (some ⟨b, 0, none⟩)] W fun e w' => e = .returned (.bool d.dark) ∧ W = w') := fun W hb => lv_dark (HY.out.later hb)
  have HRD : Hid (∀ W, Below w.heap.size w W → ∀ i : Nat, Calls Try.prog 21 #[.pointer (some ⟨b, 0, none⟩), .int .i64 (i : Int)] W (RdPost W d i)) := fun W hb i => lv_read (HY.out.later hb) i
  have HROW : Hid (∀ i : Nat, Row (Ek.now d i)) := Ek.now_row hok
  generalize d.loose.length = L at *
  obtain ⟨D, hD⟩ : ∃ D, D = d.dark := ⟨_, rfl⟩
  rw [← hD] at HV HB0 HM0 HK ⊢
  generalize d.left = F at *
  obtain ⟨N, hN⟩ : ∃ N, N = d.n := ⟨_, rfl⟩
  rw [← hN] at HV HB0 HM0 HN hn8 ⊢
  have e1 : ((N : Int) == (N : Int)) = true := by simp
  have e2 : ((L : Int) == (L : Int)) = true := by simp
  have e3 : (D == D) = true := by simp
  clear h hok hD hN HY
  go_enter Try.func20, Try.ntmps20
  go_wp2_with fail
  go_loopw [5] (fun s5 wr => ∃ i : Nat, s5 = .int .i64 (i : Int) ∧ i ≤ N ∧ Hid (Below w.heap.size w wr) ∧ Hid (Has wr w.heap.size (.cells #[.slice a N c, .slice la L lc, .int .i64 F, .bool D] 32))) (fun s5 _ => N - (intOf s5).toNat)
  case atStart => exact ⟨0, by go_num, Nat.zero_le _, HB0, HM0⟩
  clear HB0 HM0
  case round =>
    obtain ⟨i, rfl, hi, KB, KM⟩ := hrel
    have m0 := (KM.out.cell 0 : _ = some (Value.slice a N c))
    by_cases hlt : i < N
    · have j0 : decide ((i : Int) < (N : Int)) = true := decide_eq_true (by omega)
      have j2 : (i : Int) ≤ 8192 := by omega
      have CR := Lib.hid (HRD.out wr KB.out i)
      have hrow := HROW.out i
      by_cases hE : Ek.readE d (i : Int) = 0
      · have CV : Hid (∀ W, Below w.heap.size w W → Calls Try.prog 38 #[.agg #[.slice a N c, .slice la L lc, .int .i64 F, .bool D], .int .i64 (i : Int)] W fun e w' => e = .returned (.tuple #[.string (strB (Ek.now d i)), .int .i64 0]) ∧ Below W.heap.size W w') := fun W hb => by
          have := HV.out W hb i
          rwa [hE, if_pos rfl] at this
        obtain ⟨M, hM⟩ : ∃ M, M = strB (Ek.now d i) := ⟨_, rfl⟩
        have HMq : Hid (M = strB (Ek.now d i)) := hM
        rw [← hM] at CV
        have HE := Lib.hid hE
        have HR := Lib.hid hrow
        clear hE hM hrow hn8 hll
        go_wp2_with fail
        refine CR.out.mono ?_
        rintro e w2 ⟨hb2, hpost⟩
        rcases hpost with ⟨hne, _⟩ | ⟨_, g, rfl, hg, hhas⟩
        · exact absurd HE.out hne
        have KB2 := Lib.hid (KB.out.trans (hb2.mono KB.out.size))
        have KM2 := Lib.hid (KM.out.later hb2)
        have SG := Lib.hid (has_sl hhas HR.out.2 (by rw [show (Ek.now d ((i : Int)).toNat).length = 512 from HR.out.1]; decide) 512 512 HR.out.1.symm)
        clear hb2 hg hhas CR m0 KB KM
        have n0 := (KM2.out.cell 0 : _ = some (Value.slice a N c))
        have n1 := (KM2.out.cell 1 : _ = some (Value.slice la L lc))
        have n2 := (KM2.out.cell 2 : _ = some (Value.int .i64 F))
        have n3 := (KM2.out.cell 3 : _ = some (Value.bool D))
        go_wp2_with fail
        refine (CV.out _ KB2.out).mono ?_
        rintro e w3 ⟨rfl, hb3⟩
        have KB3 := Lib.hid (KB2.out.trans (hb3.mono KB2.out.size))
        have KM3 := Lib.hid (KM2.out.later hb3)
        have hcv := string_of w3 (some ⟨g, 0, none⟩) 512 512 _ M (SG.out.later hb3) HMq
        have hbq : (M.toList == M.toList) = true := beq_self_eq_true _
        clear hb3 n0 n1 n2 n3 SG
        go_wp2_with fail
        go_round
        case rel => exact ⟨i + 1, by go_num, by omega, KB3, KM3⟩
        case measure => simp [intOf]; omega
      · obtain ⟨q, hq⟩ : ∃ q, q = Ek.readE d (i : Int) := ⟨_, rfl⟩
        have CV : Hid (∀ W, Below w.heap.size w W → Calls Try.prog 38 #[.agg #[.slice a N c, .slice la L lc, .int .i64 F, .bool D], .int .i64 (i : Int)] W fun e w' => e = .returned (.tuple #[.string ⟨#[]⟩, .int .i64 q]) ∧ Below W.heap.size W w') := fun W hb => by
          have := HV.out W hb i
          rw [hq]
          rwa [if_neg hE] at this
        have HE := Lib.hid hE
        have HQ := Lib.hid hq
        have hqq : (q != q) = false := by simp
        clear hE hrow hq hn8 hll
        go_wp2_with fail
        refine CR.out.mono ?_
        rintro e w2 ⟨hb2, hpost⟩
        have he := hpost.elim (fun h => h.2) (fun h => absurd h.1 HE.out)
        clear hpost
        rw [← HQ.out] at he
        subst he
        have KB2 := Lib.hid (KB.out.trans (hb2.mono KB.out.size))
        have KM2 := Lib.hid (KM.out.later hb2)
        clear hb2 CR m0 KB KM
        have n0 := (KM2.out.cell 0 : _ = some (Value.slice a N c))
        have n1 := (KM2.out.cell 1 : _ = some (Value.slice la L lc))
        have n2 := (KM2.out.cell 2 : _ = some (Value.int .i64 F))
        have n3 := (KM2.out.cell 3 : _ = some (Value.bool D))
        go_wp2_with fail
        refine (CV.out _ KB2.out).mono ?_
        rintro e w3 ⟨rfl, hb3⟩
        have KB3 := Lib.hid (KB2.out.trans (hb3.mono KB2.out.size))
        have KM3 := Lib.hid (KM2.out.later hb3)
        have hcv := string_of w3 none 0 0 [] ⟨#[]⟩ (Sl.nil w3) (Lib.hid rfl)
        clear hb3 n0 n1 n2 n3
        go_wp2_with fail
        go_round
        case rel => exact ⟨i + 1, by go_num, by omega, KB3, KM3⟩
        case measure => simp [intOf]; omega
    · have j0 : decide ((i : Int) < (N : Int)) = false := decide_eq_false (by omega)
      have m1 := (KM.out.cell 1 : _ = some (Value.slice la L lc))
      have m3 := (KM.out.cell 3 : _ = some (Value.bool D))
      have HN' := Lib.hid (fun n => HN.out _ (below_drewN KB.out n))
      have HL' := Lib.hid (fun n => HL.out _ (below_drewN KB.out n))
      have HK' := Lib.hid (fun n => HK.out _ (below_drewN KB.out n))
      clear HRD HV HROW HN HL HK
      go_wp2_with fail
      go_quiet ((first | (go_at_call 28; exact quiet_left (HN'.out _)) | (go_at_call 42; exact quiet_left (HL'.out _)) | (go_at_call 43; exact quiet_left (HK'.out _))))
      have HB1 := Lib.hid (below_drewN KB.out nq)
      go_wp2_with fail
      go_ret
      exact ⟨rfl, HB1.out⟩
end Go.Proofs.Ythbiibinmofmfaa

/- valiselaw12.write: a sector of both disks by hand. -/
namespace Go.Proofs.Ythbiibinmofmfaa
set_option maxRecDepth 100000
open Go.RowKit

namespace Ek
/-- The sector that is written, and its bytes. -/
def hj (d : Dk) (I : Int) : Nat := ((I % 18446744073709551616).toNat) % d.n
def hk (long : Int) : Nat := ((long % 18446744073709551616).toNat) % 40
def hrw (d : Dk) (I long : Int) (c : Nat) : List Nat := if hj d I = 0 then (now d 0).set (hk long) (((now d 0)[hk long]?.getD 0 + c) % 256) else List.replicate 512 c
def hand (d : Dk) (I long : Int) (c : Nat) : Dk := if d.dark = true then d else write d (hj d I : Int) (hrw d I long c)
theorem hand_used (d : Dk) (I long : Int) (c : Nat) : (hand d I long c).used ≤ d.used + 1 := by
  unfold hand
  by_cases h1 : d.dark = true
  · rw [if_pos h1]; omega
  · rw [if_neg h1]
    unfold write
    split
    · omega
    · rw [change_used]; exact Nat.le_refl _
end Ek

/-- Block g holds the bytes ys, and perhaps more behind them. -/
def Wb (w : World) (g : Nat) (ys : List Nat) : Prop := ∃ cs n, w.heap[g]? = some (.cells cs 5 (n, n + 1)) ∧ ys.length ≤ n ∧ ys.length ≤ cs.size ∧ ∀ i, i < ys.length → cs[i]? = some (Value.int .u8 ((ys[i]?.getD 0 : Nat) : Int))
theorem Wb.cell {w : World} {g : Nat} {ys : List Nat} (h : Wb w g ys) (i : Nat) (hi : i < ys.length) : w.cell? ⟨g, i, none⟩ = some (.int .u8 ((ys[i]?.getD 0 : Nat) : Int)) := by
  obtain ⟨cs, n, h1, h2, h3, h4⟩ := h
  simp [World.cell?, h1]
  simpa using h4 i hi
theorem Wb.free {w : World} {g : Nat} {ys : List Nat} (h : Wb w g ys) (i : Nat) (hi : i < ys.length) : w.frozen? ⟨g, i, none⟩ = false := by
  obtain ⟨cs, n, h1, h2, h3, h4⟩ := h
  simp [World.frozen?, h1]
  omega
theorem Wb.set {w : World} {g : Nat} {ys : List Nat} (h : Wb w g ys) (i : Nat) (hi : i < ys.length) (x : Nat) : Wb (w.setCell ⟨g, i, none⟩ (.int .u8 (x : Int))) g (ys.set i x) := by
  obtain ⟨cs, n, h1, h2, h3, h4⟩ := h
  refine ⟨cs.setIfInBounds i (.int .u8 (x : Int)), n, by simp [World.setCell, Array.getElem?_modify, h1], by rw [List.length_set]; exact h2, by rw [List.length_set, Array.size_setIfInBounds]; exact h3, fun k hk => ?_⟩
  rw [List.length_set] at hk
  by_cases e : i = k
  · subst e
    rw [Array.getElem?_setIfInBounds_self_of_lt (by omega), List.getElem?_set_self hi]
    rfl
  · rw [Array.getElem?_setIfInBounds_ne e, List.getElem?_set_ne e]
    exact h4 k hk
theorem Wb.lt {w : World} {g : Nat} {ys : List Nat} (h : Wb w g ys) : g < w.heap.size := by
  obtain ⟨cs, n, h1, _⟩ := h
  exact (Array.getElem?_eq_some_iff.1 h1).1
theorem Wb.same {w w' : World} {g : Nat} {ys : List Nat} (h : Wb w g ys) (e : w'.heap[g]? = w.heap[g]?) : Wb w' g ys := by
  obtain ⟨cs, n, h1, h2⟩ := h
  exact ⟨cs, n, e.trans h1, h2⟩
theorem Wb.later {w w' : World} {g : Nat} {ys : List Nat} (h : Wb w g ys) (hb : Below w.heap.size w w') : Wb w' g ys := h.same (hb.block g h.lt)
theorem Wb.sl {w : World} {g : Nat} {ys : List Nat} (h : Wb w g ys) (h8 : ∀ y ∈ ys, y < 256) (n cap : Nat) (hn : n = ys.length) (hl : n ≤ 1000000) : Sl w (.slice (some ⟨g, 0, none⟩) n cap) ys := by
  refine ⟨_, n, cap, rfl, hn, by omega, fun h => (nomatch h), h8, fun _ => ⟨g, 0, rfl, h.lt, fun i hi => ?_⟩⟩
  rw [Nat.zero_add, h.cell i (by omega), List.getElem?_eq_getElem (by omega)]
  first | done | rfl
theorem conv_wb (bs : List Nat) (h8 : ∀ x ∈ bs, x < 256) (hl : bs.length ≤ 1000000) (S : ByteArray) (hS : Hid (S = strB bs)) (w : World) :
    ∃ cap w', (convert 9 35 (.string S)).run Try.prog w = .ok (.slice (some ⟨w.heap.size, 0, none⟩) bs.length cap) w' ∧ Wb w' w.heap.size bs ∧ Below w.heap.size w w' ∧ bs.length ≤ cap ∧ w'.heap.size = w.heap.size + 1 := by
  have hsz : S.size = bs.length := by rw [hS.out, strB_size]
  refine ⟨grownCap w S.size 0 5, Lib.bytesWorld w 5 S, ?_, ?_, ?_, ?_, Lib.bytesWorld_size _ _ _⟩
  · rw [← hsz]
    exact Lib.run_convert_string_bytes w 9 35 5 S Try.underlying9 Try.underlying35 Try.underlying5
  · have hbs : ∀ i, i < bs.length → (Lib.bytesCells w 5 S)[i]? = some (Value.int .u8 ((bs[i]?.getD 0 : Nat) : Int)) := fun i hi => by
      have h1 := Lib.bytesWorld_cell w 5 S i (by omega)
      have h2 := Lib.bytesWorld_at_new w 5 S
      have e : S.data.toList = bs.map UInt8.ofNat := by
        rw [hS.out]
        unfold strB
        rw [strOfNums_data, List.map_map]
        congr 1
      rw [e] at h1
      have h3 : (Lib.bytesWorld w 5 S).cell? ⟨w.heap.size, i, none⟩ = (Lib.bytesCells w 5 S)[i]? := by simp [World.cell?, h2]
      rw [← h3, h1]
      have hx := h8 (bs[i]) (List.getElem_mem hi)
      simp [List.getD, hi]
      omega
    have hsize : bs.length ≤ (Lib.bytesCells w 5 S).size := by
      rcases Nat.eq_zero_or_pos bs.length with h0 | h0
      · omega
      · have := (Array.getElem?_eq_some_iff.1 (hbs (bs.length - 1) (by omega))).1
        omega
    exact ⟨Lib.bytesCells w 5 S, _, Lib.bytesWorld_at_new w _ S, hsize, hsize, hbs⟩
  · exact ⟨rfl, rfl, rfl, by rw [Lib.bytesWorld_size]; omega, fun k hk => Lib.bytesWorld_at_old w _ S k hk⟩
  · rw [← hsz]
    exact grownCap_ge w S.size 0 _

theorem Bo.new3 {w0 w w' : World} {b : Nat} {d m : Ek.Dk} {v : Value} {E G F : Nat → Prop} {ws : World} (h : Bo w0 w b d v m E G F ws) (hb : Below w.heap.size w w') : ∃ E', Bo w0 w' b d v m E' G F ws ∧ (∀ k, E k → E' k) ∧ (∀ k, w.heap.size ≤ k → k < w'.heap.size → E' k) :=
  ⟨_, h.new hb, fun _ hk => Or.inl hk, fun _ h1 h2 => Or.inr ⟨h1, h2⟩⟩
theorem Bo.ref3 {w0 w w' : World} {b : Nat} {d m m' : Ek.Dk} {v v' : Value} {E G F : Nat → Prop} {ws : World} (h : Bo w0 w b d v m E G F ws) (hb : Below w.heap.size w w') (hd : DDk w' (fun q => G q ∨ w.heap.size ≤ q) v' m') : ∃ E' G', Bo w0 w' b d v' m' E' G' F ws ∧ (∀ k, E k → E' k) ∧ (∀ k, k < w.heap.size → G' k → G k) ∧ (∀ k, G' k → k < w'.heap.size) ∧ (∀ k, w.heap.size ≤ k → k < w'.heap.size → E' k) :=
  ⟨_, _, h.ref hb hd, fun _ hk => Or.inl hk, fun k h1 hk => by
    rcases hk with h | h
    · exact h
    · omega, fun k hk => by
    rcases hk with hg | hg
    · exact Nat.lt_of_lt_of_le (h.ly.lt k (h.sub k hg)) hb.size
    · exact hg.2, fun _ h1 h2 => Or.inr ⟨h1, h2⟩⟩
theorem Bo.glt {w0 w : World} {b : Nat} {d m : Ek.Dk} {v : Value} {E G F : Nat → Prop} {ws : World} (h : Bo w0 w b d v m E G F ws) : ∀ k, G k → k < w.heap.size := fun k hk => h.ly.lt k (h.sub k hk)
/-- What write leaves: both disks are d. -/
def WrP (w0 : World) (b : Nat) (F : Nat → Prop) (ws : World) (d : Ek.Dk) (e : Ending) (w' : World) : Prop := ∃ v E G, e = .returned v ∧ Bo w0 w' b d v d E G F ws
theorem WrP.of {w0 w : World} {b : Nat} {d : Ek.Dk} {v : Value} {E G F : Nat → Prop} {ws : World} (h : Bo w0 w b d v d E G F ws) (z : Nat) (hz : E z) (hg : ¬ G z) (hF : ws.heap.size ≤ z) (cs : Array Value) : WrP w0 b F ws d (.returned v) (w.setRow z cs) :=
  ⟨v, E, G, rfl, h.tch z hz hg hF (tch_row w z cs)⟩
theorem results_c1 {P : Program} {fn : Func} {p : Tmp} {ty : TypeId} (h : fn.results = #[.cell p ty]) (tmps : Array Value) (w : World) (g : Nat) (t : TypeId) (cs : Array Value) (fr : Nat × Nat) (d : TypeDesc)
    (hp : tmps.getD p undef = .pointer (some ⟨g, 0, none⟩)) (hg : w.heap[g]? = some (.cells cs t fr))
    (hu : P.underlying ty = some d) (hd : (match d with | .struct _ | .array _ _ => true | _ => false) = true) (hi : (P.info? ty).map (·.size) = some cs.size) :
    (results fn tmps).run P w = .ok (.agg cs) w := by
  have hp' : tmps[p]?.getD undef = .pointer (some ⟨g, 0, none⟩) := by simpa using hp
  simp [results, h, hp', asAddr, run_loadVar_row w g t ty cs fr d hg hu hd hi]
theorem rep_drop (l : List Nat) (c k : Nat) (h : k < l.length) : (List.replicate k c ++ l.drop k).set k c = List.replicate (k + 1) c ++ l.drop (k + 1) := by
  rw [List.set_append_right _ _ (by simp), List.length_replicate, Nat.sub_self, List.drop_eq_getElem_cons h, List.set_cons_zero, List.replicate_succ', List.append_assoc]
  rfl

end Go.Proofs.Ythbiibinmofmfaa
