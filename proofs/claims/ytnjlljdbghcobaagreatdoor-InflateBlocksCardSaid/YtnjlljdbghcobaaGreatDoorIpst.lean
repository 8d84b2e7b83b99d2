/- Contract of inflate's reader: symbols. -/
import Derived.Test.YtnjlljdbghcobaaGreatDoorIcop2
import Derived.Test.YtnjlljdbghcobaaGreatDoorItake
import Derived.Test.YtnjlljdbghcobaaGreatDoorAppm

namespace Go.Proofs.YtnjlljdbghcobaaGreatDoor
set_option maxRecDepth 100000
open Go.RowKit

/-- The reader's place in memory. -/
def placeOf (R : Nat) (w : World) : Nat := match w.cell? ⟨R, 2, none⟩ with | some v => (intOf v).toNat | none => 0
theorem St.place {K : Nat → Prop} {R : Nat} {s : Value} {l : List Bool} {N most : Nat} {w : World} {r : Rv} (h : St K R s l N most w r) : placeOf R w = r.p := by
  obtain ⟨tv, hx, _, _⟩ := h.has
  obtain ⟨_, _, c2, _⟩ := rdi_cells hx
  unfold placeOf
  rw [c2]
  simp [intOf]

namespace If
/-- One round of a block's symbols. -/
theorem syms_succ (l : List Bool) (lit dist : List Nat) (most k : Nat) (out : List Nat) (p y q : Nat) (c : Int) (hr : Hd.rd lit l p = (y, q, c)) :
    syms l lit dist most (k + 1) out p = if c ≠ 0 then ([], 0, c) else if y = 256 then (out, q, 0) else
      if 256 < y then (if (copy l dist most y q out).2.2 ≠ 0 then ([], 0, (copy l dist most y q out).2.2) else syms l lit dist most k (copy l dist most y q out).1 (copy l dist most y q out).2.1) else
      if most ≤ out.length then ([], 0, 3) else syms l lit dist most k (out ++ [y]) q := by
  simp only [syms]
  rw [hr]
theorem takeE_byte (y n most : Nat) : takeE ⟨0, 0, y⟩ n most = if most ≤ n then 3 else 0 := by
  unfold takeE sz
  simp only [Nat.not_lt_zero, if_false, if_true]
  by_cases h : most ≤ n
  · rw [if_pos (by omega), if_pos h]
  · rw [if_neg (by omega), if_neg h]
end If

set_option maxHeartbeats 8000000 in
theorem symbols_any {K : Nat → Prop} {R : Nat} {s : Value} {l : List Bool} {N most : Nat} {w : World} {r : Rv} (tb dv : Value) (lit dist : List Nat) (hT : TbK K w tb lit) (hD : Dv K w dv dist) (hS : St K R s l N most w r) (hl : Hid (N = l.length)) (hN : N ≤ 2251799813685248) (hm : most ≤ 65536)
    (k : Nat) (hk : N < r.p + k) (res : List Nat × Nat × Int) (hres : Hid (Unit → If.syms l lit dist most k (If.tell r.ts) r.p = res)) :
    Calls Tryz.prog 161 #[.pointer (some ⟨R, 0, none⟩), tb, dv] w (Out K w res.2.2 (.tuple #[]) (fun w' => ∃ ts', If.tell ts' = res.1 ∧ St K R s l N most w' { r with p := res.2.1, ts := ts' })) := by
  have HS := Lib.hid hS
  have HT := Lib.hid hT
  have HD := Lib.hid hD
  obtain ⟨r0, ts0, lv, dvv⟩ := r
  simp only at hk hres ⊢
  clear hS hT hD
  go_enter Tryz.func161, Tryz.ntmps161
  go_wp2_with fail
  go_loopw [6] (fun s6 wr => ∃ (k' p : Nat) (ts : List If.Tk), Hid (N < p + k') ∧ Hid (St K R s l N most wr ⟨p, ts, lv, dvv⟩) ∧ Hid (Fr K w wr) ∧ Hid (Unit → If.syms l lit dist most k' (If.tell ts) p = res)) (fun _ wr => N - placeOf R wr)
  case atStart => exact ⟨k, r0, ts0, hk, HS.out, Fr.refl _ _, fun u => hres.out u⟩
  case round =>
    obtain ⟨k', p, ts, HK, KS, KF, KR⟩ := hrel
    have hpl := KS.out.place
    simp only at hpl
    have hpn := KS.out.pn
    simp only at hpn
    obtain ⟨k2, rfl⟩ : ∃ k2, k' = k2 + 1 := ⟨k' - 1, by have := HK.out; omega⟩
    obtain ⟨rr, hrr⟩ : ∃ rr, Hd.rd lit l p = rr := ⟨_, rfl⟩
    obtain ⟨y, q, c⟩ := rr
    have hstep := KR.out ()
    rw [If.syms_succ l lit dist most k2 _ p y q c hrr] at hstep
    have hlt := Hd.rd_lt (by rw [← hl.out]; exact hpn) hrr
    have HY := Lib.hid (isym_any tb lit (HT.out.fr KF.out) KS.out hl hN y q c hrr)
    have HPL := Lib.hid hpl
    have HSTEP := Lib.hid (fun _ : Unit => hstep)
    have HLT := Lib.hid (fun _ : Unit => hlt)
    have HK2 := Lib.hid HK.out
    clear hstep hlt hrr KR hpl HK
    go_wp2_with fail
    refine HY.out.mono ?_
    clear HY
    intro e w1 ho
    by_cases hc : c ≠ 0
    · obtain ⟨rfl, hf1⟩ := ho.bad hc
      have hst := HSTEP.out ()
      rw [if_pos hc] at hst
      subst hst
      exact ⟨rfl, Out.fault hc (KF.out.trans hf1)⟩
    · obtain rfl : c = 0 := by simpa using hc
      obtain ⟨rfl, hS1, hf1⟩ := ho.ok
      have HS1 := Lib.hid hS1
      have HF1 := Lib.hid (KF.out.trans hf1)
      clear ho hS1 hf1 hc
      have hN9 : N < q + k2 := by have := (HLT.out ()).1 rfl; have := HK2.out; omega
      have HNK := Lib.hid hN9
      have hqy : Hid (p < q ∧ q ≤ N ∧ y < lit.length) := by have := (HLT.out ()).1 rfl; exact ⟨this.2.1, by rw [hl.out]; exact this.2.2, this.1⟩
      clear hN9 HK2 HLT KS hpn
      by_cases h256 : y = 256
      · have hst := HSTEP.out ()
        rw [if_neg (by simp), if_pos h256] at hst
        subst hst h256
        clear HSTEP hres
        go_wp2_with fail
        refine ⟨rfl, .tuple #[], by simp [results, Tryz.results161, go_sem], Out.intro HF1.out ⟨ts, rfl, HS1.out⟩⟩
      by_cases hgt : 256 < y
      · have e1 : decide ((y : Int) < 256) = false := by simp; omega
        have e2 : decide (y < 256) = false := by simp; omega
        have e3 : ((y : Int) == 256) = false := by simp; omega
        have e4 : (y == 256) = false := by simp; omega
        have hcc := copied_any y hgt dv dist (HD.out.fr HF1.out) HS1.out hl hN
        simp only at hcc
        have hst := HSTEP.out ()
        rw [if_neg (by simp), if_neg h256, if_pos hgt, If.copy_is l dist most y q _ hgt] at hst
        have hcop : (If.copt l dist y q).2.2 = 0 → If.Cop (If.copt l dist y q).1 := If.copt_ok hgt
        have hcf := @If.copy_facts l dist most y q (If.tell ts)
        rw [If.copy_is l dist most y q _ hgt] at hcf
        obtain ⟨cc, hcce⟩ : ∃ cc, cc = If.copt l dist y q := ⟨_, rfl⟩
        rw [← hcce] at hcc hst hcop hcf
        obtain ⟨t, q2, c2⟩ := cc
        simp only at hcc hst hcop hcf
        have HC := Lib.hid hcc
        have HST := Lib.hid (fun _ : Unit => hst)
        have HCF := Lib.hid (fun _ : Unit => hcf)
        clear hcc hst hcf hcce HSTEP hres h256
        by_cases hc2 : c2 = 0
        · subst hc2
          have HCOP := Lib.hid (hcop rfl)
          clear hcop
          go_wp2_with fail
          refine HC.out.mono ?_
          clear HC
          intro e w2 ho
          obtain ⟨rfl, hS2, hf2⟩ := ho.ok
          have hta := take_any t (Or.inr HCOP.out) hS2 hm
          simp only at hta
          have HTA := Lib.hid hta
          have HF2 := Lib.hid (HF1.out.trans hf2)
          clear ho hS2 hf2 hta
          unfold tkv at HTA ⊢
          obtain ⟨ec, hec⟩ : ∃ ec, ec = takeE t (If.tell ts).length most := ⟨_, rfl⟩
          have hst := HST.out ()
          have hcf := HCF.out ()
          rw [← hec] at HTA hst hcf
          have HST2 := Lib.hid (fun _ : Unit => hst)
          have HCF2 := Lib.hid (fun _ : Unit => hcf)
          clear hst hcf hec HST HCF
          by_cases hte : ec = 0
          · subst hte
            go_wp2_with fail
            refine HTA.out.mono ?_
            clear HTA
            intro e w3 ho
            obtain ⟨rfl, hS3, hf3⟩ := ho.ok
            have hst := HST2.out ()
            have hcf := HCF2.out ()
            simp only [ne_eq, not_true_eq_false, if_false] at hst hcf
            have hq2 := hcf trivial
            have hst2 : If.syms l lit dist most k2 (If.tell (ts ++ [t])) q2 = res := by rw [If.tell_snoc]; exact hst
            have HST3 := Lib.hid (fun _ : Unit => hst2)
            have HQ2 := Lib.hid (show q < q2 ∧ q2 ≤ N from ⟨hq2.1, by rw [hl.out]; exact hq2.2⟩)
            have HS3 := Lib.hid hS3
            have HF3 := Lib.hid (HF2.out.trans hf3)
            clear hst hcf hq2 hst2 hS3 hf3 ho HST2 HCF2
            go_wp2_with fail
            go_roundw
            case rel => exact ⟨k2, q2, ts ++ [t], by show _ < _; have := HNK.out; have := HQ2.out; omega, HS3.out, HF3.out, HST3.out⟩
            case measure => have h1 := HS3.out.place; have h2 := HPL.out; have h3 := HQ2.out; have h4 := hqy.out; simp only at h1; rw [h1, h2]; omega
          · go_wp2_with fail
            refine HTA.out.mono ?_
            clear HTA
            intro e w3 ho
            obtain ⟨rfl, hf3⟩ := ho.bad hte
            have hst := HST2.out ()
            simp [hte] at hst
            subst hst
            exact ⟨rfl, Out.fault hte (HF2.out.trans hf3)⟩
        · clear hcop
          go_wp2_with fail
          refine HC.out.mono ?_
          clear HC
          intro e w2 ho
          obtain ⟨rfl, hf2⟩ := ho.bad hc2
          have hst := HST.out ()
          rw [if_pos hc2] at hst
          simp only at hst
          rw [if_pos hc2] at hst
          subst hst
          exact ⟨rfl, Out.fault hc2 (HF1.out.trans hf2)⟩
      · have hlt : y < 256 := by omega
        have ew : IntKind.u8.wrap (y : Int) = (y : Int) := by simp [IntKind.wrap, IntKind.signed, IntKind.bits]; omega
        have e1 : decide ((y : Int) < 256) = true := by simp; omega
        have e2 : decide (y < 256) = true := by simp; omega
        have hta := take_any ⟨0, 0, y⟩ (Or.inl ⟨rfl, rfl, hlt⟩) HS1.out hm
        simp only [If.takeE_byte] at hta
        have hst := HSTEP.out ()
        rw [if_neg (by simp), if_neg h256, if_neg hgt] at hst
        have HTA := Lib.hid hta
        have HST := Lib.hid (fun _ : Unit => hst)
        clear hta hst HSTEP hres h256
        unfold tkv at HTA
        by_cases hfull : most ≤ (If.tell ts).length
        · have hst := HST.out ()
          rw [if_pos hfull] at hst HTA
          subst hst
          clear HST hfull
          go_wp2_with fail
          refine HTA.out.mono ?_
          clear HTA
          intro e w3 ho
          obtain ⟨rfl, hf3⟩ := ho.bad (by decide)
          exact ⟨rfl, Out.fault (by decide) (HF1.out.trans hf3)⟩
        · have hst := HST.out ()
          rw [if_neg hfull] at hst HTA
          have hst2 : If.syms l lit dist most k2 (If.tell (ts ++ [⟨0, 0, y⟩])) q = res := by rw [If.tell_snoc]; exact hst
          have HST3 := Lib.hid (fun _ : Unit => hst2)
          clear hst hst2 hfull HST
          go_wp2_with fail
          refine HTA.out.mono ?_
          clear HTA
          intro e w3 ho
          obtain ⟨rfl, hS3, hf3⟩ := ho.ok
          have HS3 := Lib.hid hS3
          have HF3 := Lib.hid (HF1.out.trans hf3)
          clear hS3 hf3 ho
          go_wp2_with fail
          go_roundw
          case rel => exact ⟨k2, q, ts ++ [({ len := 0, far := 0, lit := y } : If.Tk)], HNK.out, HS3.out, HF3.out, HST3.out⟩
          case measure => have h1 := HS3.out.place; have h2 := HPL.out; have h4 := hqy.out; simp only at h1; rw [h1, h2]; omega
end Go.Proofs.YtnjlljdbghcobaaGreatDoor

/- Streams of stored blocks, in plain numbers; the document's examples. -/
namespace Go.Proofs.YtnjlljdbghcobaaGreatDoor
set_option maxRecDepth 100000
namespace If
open Hd (num rd head)

/-- The bits of some bytes. -/
def bb (bs : List Nat) : List Bool := Bs.bitsFrom bs (8 * bs.length)
theorem bb_length (bs : List Nat) : (bb bs).length = 8 * bs.length := Bs.bitsFrom_length _ _
theorem bb_pack (bs : List Nat) (h8 : ∀ x ∈ bs, x < 256) : Bs.pack (bb bs) = bs := Bs.pack_bitsFrom bs _ ⟨by omega, Or.inl (by omega)⟩ h8
theorem bb_byte (bs : List Nat) (h8 : ∀ x ∈ bs, x < 256) (j : Nat) (hj : j < bs.length) : Bs.byteAt (bb bs) j = bs[j]?.getD 0 := by
  have h : (Bs.pack (bb bs))[j]?.getD 0 = Bs.byteAt (bb bs) j := Bs.packTo_get _ _ _ (by rw [bb_length]; omega)
  rw [bb_pack bs h8] at h
  exact h.symm

theorem num_append (a b : List Bool) : Bs.num (a ++ b) = Bs.num a + 2 ^ a.length * Bs.num b := by
  induction a with
  | nil => simp [Bs.num]
  | cons x a ih =>
    simp only [List.cons_append, Bs.num, ih, List.length_cons, Nat.pow_succ]
    generalize Bs.num b = q
    generalize 2 ^ a.length = r
    have : r * 2 * q = 2 * (r * q) := by rw [Nat.mul_comm r 2, Nat.mul_assoc]
    omega
theorem num_split (l : List Bool) (p n m : Nat) (h : p + n ≤ l.length) : num l p (n + m) = num l p n + 2 ^ n * num l (p + n) m := by
  unfold num
  rw [List.take_add, num_append, List.drop_drop, List.length_take, List.length_drop, Nat.min_eq_left (by omega)]
theorem num16 (l : List Bool) (j : Nat) (h : 8 * j + 8 ≤ l.length) : num l (8 * j) 16 = Bs.byteAt l j + 256 * Bs.byteAt l (j + 1) := by
  rw [num_split l (8 * j) 8 8 h]
  rfl
theorem num_first (l : List Bool) (j f : Nat) (h : 8 * j + 8 ≤ l.length) (hf : Bs.byteAt l j = f) (h1 : f ≤ 1) : num l (8 * j) 1 = f ∧ num l (8 * j + 1) 2 = 0 := by
  have e1 := num_split l (8 * j) 1 7 (by omega)
  have e2 := num_split l (8 * j + 1) 2 5 (by omega)
  have e3 : num l (8 * j) 8 = f := hf
  rw [show 1 + 7 = 8 from rfl, e3] at e1
  rw [show 2 + 5 = 7 from rfl] at e2
  omega

/-- A stored block of some bytes. -/
def blk (f : Nat) (x : List Nat) : List Nat := [f, x.length % 256, x.length / 256, 255 - x.length % 256, 255 - x.length / 256] ++ x
theorem blk_length (f : Nat) (x : List Nat) : (blk f x).length = 5 + x.length := by simp [blk]; omega
theorem blk_lt (f : Nat) (x : List Nat) (hf : f ≤ 1) (hx : x.length < 65536) (h8 : ∀ y ∈ x, y < 256) : ∀ y ∈ blk f x, y < 256 := by
  intro y hy
  simp only [blk, List.cons_append, List.nil_append, List.mem_cons] at hy
  rcases hy with rfl | rfl | rfl | rfl | rfl | hy
  · omega
  · omega
  · omega
  · omega
  · omega
  · exact h8 y hy

theorem and_turned (n : Nat) (h : n < 65536) : n &&& (65535 - n) = 0 := by
  apply Nat.eq_of_testBit_eq
  intro i
  rw [Nat.testBit_and, Nat.zero_testBit, show 65535 - n = 2 ^ 16 - (n + 1) by omega, Nat.testBit_two_pow_sub_succ (by omega)]
  cases n.testBit i <;> simp

theorem stored_block (pre x post : List Nat) (f most : Nat) (out : List Nat) (hf : f ≤ 1) (hx : x.length < 65536) (h8 : ∀ y ∈ pre ++ blk f x ++ post, y < 256) (hr : out.length + x.length ≤ most) :
    block (bb (pre ++ blk f x ++ post)) most (8 * pre.length) out = (out ++ x, 8 * (pre ++ blk f x).length, 0) ∧ num (bb (pre ++ blk f x ++ post)) (8 * pre.length) 1 = f := by
  have hB := bb_byte _ h8
  have hL := bb_length (pre ++ blk f x ++ post)
  have hlen : (pre ++ blk f x ++ post).length = pre.length + 5 + x.length + post.length := by simp only [List.length_append, blk_length]; omega
  have hat : ∀ j, j < 5 + x.length → (pre ++ blk f x ++ post)[pre.length + j]?.getD 0 = (blk f x)[j]?.getD 0 := by
    intro j hj
    rw [List.append_assoc, List.getElem?_append_right (by omega), List.getElem?_append_left (by rw [blk_length]; omega)]
    congr 2
    omega
  generalize pre ++ blk f x ++ post = bs at *
  rw [hlen] at hL
  obtain ⟨n1, n2⟩ := num_first (bb bs) pre.length f (by omega) (by rw [hB _ (by omega)]; have := hat 0 (by omega); rw [Nat.add_zero] at this; rw [this]; rfl) hf
  have n3 : num (bb bs) (8 * (pre.length + 1)) 16 = x.length := by
    rw [num16 _ _ (by omega), hB _ (by omega), hB _ (by omega), hat 1 (by omega), show pre.length + 1 + 1 = pre.length + 2 from rfl, hat 2 (by omega)]
    show x.length % 256 + 256 * (x.length / 256) = x.length
    omega
  have n4 : num (bb bs) (8 * (pre.length + 1) + 16) 16 = 65535 - x.length := by
    rw [show 8 * (pre.length + 1) + 16 = 8 * (pre.length + 3) by omega, num16 _ _ (by omega), hB _ (by omega), hB _ (by omega), hat 3 (by omega), show pre.length + 3 + 1 = pre.length + 4 from rfl, hat 4 (by omega)]
    show 255 - x.length % 256 + 256 * (255 - x.length / 256) = 65535 - x.length
    omega
  refine ⟨?_, n1⟩
  unfold block
  rw [if_neg (by rw [hL]; omega), if_pos n2]
  unfold stored
  have e : up (8 * pre.length + 3) = 8 * (pre.length + 1) := by unfold up; omega
  rw [e, n3, n4, if_neg (by rw [hL]; omega), if_neg (by rw [and_turned _ hx]; omega), if_neg (by omega), if_neg (by rw [hL]; omega)]
  have e2 : (List.range x.length).map (fun i => Bs.byteAt (bb bs) ((8 * (pre.length + 1) + 32) / 8 + i)) = x := by
    apply List.ext_getElem?
    intro i
    by_cases hi : i < x.length
    · rw [List.getElem?_map, List.getElem?_range hi, Option.map_some, show (8 * (pre.length + 1) + 32) / 8 + i = pre.length + (5 + i) by omega, hB _ (by omega), hat (5 + i) (by omega)]
      rw [List.getElem?_eq_getElem hi]
      have : (blk f x)[5 + i]? = x[i]? := by
        unfold blk
        rw [List.getElem?_append_right (by simp)]
        congr 1
        simp
      rw [this, List.getElem?_eq_getElem hi]
      rfl
    · rw [List.getElem?_eq_none (by simp; omega), List.getElem?_eq_none (by omega)]
  rw [e2, List.length_append, blk_length]
  congr 2
  omega

/-- Stored blocks, the last one marked. -/
def strm : List (List Nat) → List Nat
  | [] => []
  | [x] => blk 1 x
  | x :: y :: r => blk 0 x ++ strm (y :: r)
theorem strm_lt : ∀ (L : List (List Nat)), (∀ x ∈ L, x.length < 65536) → (∀ x ∈ L, ∀ y ∈ x, y < 256) → ∀ y ∈ strm L, y < 256
  | [], _, _, y, h => by simp [strm] at h
  | [x], h1, h2, y, h => blk_lt 1 x (by omega) (h1 x (by simp)) (h2 x (by simp)) y h
  | x :: z :: r, h1, h2, y, h => by
    simp only [strm, List.mem_append] at h
    rcases h with h | h
    · exact blk_lt 0 x (by omega) (h1 x (by simp)) (h2 x (by simp)) y h
    · exact strm_lt (z :: r) (fun a ha => h1 a (List.mem_cons_of_mem _ ha)) (fun a ha => h2 a (List.mem_cons_of_mem _ ha)) y h
theorem strm_length : ∀ (L : List (List Nat)), L.length ≤ (strm L).length
  | [] => by simp [strm]
  | [x] => by simp [strm, blk_length]; omega
  | x :: z :: r => by have := strm_length (z :: r); simp only [strm, List.length_append, blk_length, List.length_cons] at this ⊢; omega

theorem stored_blocks (most : Nat) : ∀ (L : List (List Nat)) (pre out : List Nat) (k : Nat), L ≠ [] → (∀ x ∈ L, x.length < 65536) → (∀ y ∈ pre, y < 256) → (∀ x ∈ L, ∀ y ∈ x, y < 256) → out.length + L.flatten.length ≤ most → L.length ≤ k →
    blocks (bb (pre ++ strm L)) most k out (8 * pre.length) = (out ++ L.flatten, 8 * (pre ++ strm L).length, 0)
  | [], _, _, _, h, _, _, _, _, _ => absurd rfl h
  | [x], pre, out, 0, _, _, _, _, _, h => by simp at h
  | [x], pre, out, k + 1, _, h1, h2, h3, h4, _ => by
    simp only [List.flatten_cons, List.flatten_nil, List.append_nil] at h4 ⊢
    obtain ⟨e1, e2⟩ := stored_block pre x [] 1 most out (by omega) (h1 x (by simp)) (by
      intro y hy
      simp only [List.append_nil, List.mem_append] at hy
      rcases hy with hy | hy
      · exact h2 y hy
      · exact blk_lt 1 x (by omega) (h1 x (by simp)) (h3 x (by simp)) y hy) h4
    rw [List.append_nil] at e1 e2
    show blocks (bb (pre ++ blk 1 x)) most (k + 1) out (8 * pre.length) = _
    simp only [blocks]
    rw [e1, e2, if_neg (by simp), if_pos rfl]
    rfl
  | x :: z :: r, pre, out, 0, _, _, _, _, _, h => by simp at h
  | x :: z :: r, pre, out, k + 1, _, h1, h2, h3, h4, h5 => by
    have hz1 : ∀ a ∈ z :: r, a.length < 65536 := fun a ha => h1 a (List.mem_cons_of_mem _ ha)
    have hz3 : ∀ a ∈ z :: r, ∀ y ∈ a, y < 256 := fun a ha => h3 a (List.mem_cons_of_mem _ ha)
    have hb := blk_lt 0 x (by omega) (h1 x (by simp)) (h3 x (by simp))
    rw [List.flatten_cons] at h4 ⊢
    rw [List.length_append] at h4
    obtain ⟨e1, e2⟩ := stored_block pre x (strm (z :: r)) 0 most out (by omega) (h1 x (by simp)) (by
      intro y hy
      simp only [List.mem_append] at hy
      rcases hy with (hy | hy) | hy
      · exact h2 y hy
      · exact hb y hy
      · exact strm_lt _ hz1 hz3 y hy) (by omega)
    have ih := stored_blocks most (z :: r) (pre ++ blk 0 x) (out ++ x) k (by simp) hz1 (by
      intro y hy
      rw [List.mem_append] at hy
      rcases hy with hy | hy
      · exact h2 y hy
      · exact hb y hy) hz3 (by rw [List.length_append]; omega) (by simpa using h5)
    have e0 : pre ++ strm (x :: z :: r) = pre ++ blk 0 x ++ strm (z :: r) := by simp [strm]
    rw [e0]
    simp only [blocks]
    rw [e1, e2, if_neg (by simp), if_neg (by simp)]
    simp only
    rw [ih, List.append_assoc out x]

/-- Stored blocks tell their bytes. -/
theorem stored_decode (L : List (List Nat)) (most : Int) (h0 : L ≠ []) (h1 : ∀ x ∈ L, x.length < 65536) (h3 : ∀ x ∈ L, ∀ y ∈ x, y < 256) (h4 : (L.flatten.length : Int) ≤ most) (h5 : most ≤ 65536) :
    decode (bb (strm L)) most = (L.flatten, (strm L).length, 0) := by
  have e := stored_blocks most.toNat L [] [] ((bb (strm L)).length + 1) h0 h1 (fun y hy => nomatch hy) h3 (by simp only [List.length_nil]; omega) (by
    have := strm_length L
    rw [bb_length]; omega)
  simp only [List.nil_append, List.length_nil, Nat.mul_zero] at e
  unfold decode
  rw [if_neg (by omega), e, if_neg (by simp)]
  simp only
  congr 2
  omega

/-! ### The document's examples -/

theorem ex_abc : decode (bb [1, 3, 0, 252, 255, 97, 98, 99]) 3 = ([97, 98, 99], 8, 0) :=
  stored_decode [[97, 98, 99]] 3 (by simp) (by simp) (by simp) (by simp) (by omega)
theorem ex_sum : decode (bb [1, 3, 0, 253, 255, 97, 98, 99]) 9 = ([], 0, 5) := by
  unfold decode
  rw [if_neg (by omega)]
  have e : block (bb [1, 3, 0, 253, 255, 97, 98, 99]) 9 0 [] = ([], 0, 5) := by
    unfold block
    rw [if_neg (by rw [bb_length]; simp), if_pos (by decide +kernel)]
    decide +kernel
  have e2 : blocks (bb [1, 3, 0, 253, 255, 97, 98, 99]) (9 : Int).toNat ((bb [1, 3, 0, 253, 255, 97, 98, 99]).length + 1) [] 0 = ([], 0, 5) := by
    show blocks _ 9 _ _ _ = _
    simp only [blocks]
    rw [e, if_pos (by simp)]
  rw [e2, if_pos (by simp)]
theorem ex_code : decode (bb [7]) 9 = ([], 0, 13) := by
  unfold decode
  rw [if_neg (by omega)]
  have e : block (bb [7]) 9 0 [] = ([], 0, 13) := by
    unfold block
    rw [if_neg (by rw [bb_length]; simp), if_neg (by decide +kernel), if_neg (by decide +kernel), if_neg (by decide +kernel)]
  have e2 : blocks (bb [7]) (9 : Int).toNat ((bb [7]).length + 1) [] 0 = ([], 0, 13) := by
    show blocks _ 9 _ _ _ = _
    simp only [blocks]
    rw [e, if_pos (by simp)]
  rw [e2, if_pos (by simp)]
end If
end Go.Proofs.YtnjlljdbghcobaaGreatDoor
