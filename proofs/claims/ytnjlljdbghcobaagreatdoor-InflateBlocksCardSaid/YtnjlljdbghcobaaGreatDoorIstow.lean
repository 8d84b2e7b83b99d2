/- Contract of the document's Decode. -/
import Derived.Test.YtnjlljdbghcobaaGreatDoorJblk
import Derived.Test.YtnjlljdbghcobaaGreatDoorIdec1
import Derived.Test.YtnjlljdbghcobaaGreatDoorCapp
import Derived.Test.YtnjlljdbghcobaaGreatDoorImost
import Derived.Test.YtnjlljdbghcobaaGreatDoorHcmp
import Derived.Test.YtnjlljdbghcobaaGreatDoorIpst
import Derived.ChangeSame
import Derived.ChangeVars
import Derived.JoinedOf
import Derived.LaidLaws
import Derived.LaidHandle
import Derived.LaidMore
import Derived.OpenShut
import Derived.Stop.Joined
import Derived.ProofKit
import Derived.SizedLaws
import Derived.Lib.SmallJoins
import Derived.Laws.BitsAllLaws

namespace Go.Proofs.YtnjlljdbghcobaaGreatDoor
set_option maxRecDepth 100000
open Go.RowKit

abbrev jdiO (a : Option Addr) (len cap N most : Nat) : Obj := .cells #[.slice a len cap, .int .i64 (N : Int), .int .i64 0, .slice none 0 0, .int .i64 (most : Int)] 70

/-- What the document's Decode answers. -/
def JDec (w : World) (res : List Nat × Nat × Int) (e : Ending) (w' : World) : Prop :=
  ∃ v, e = .returned (.tuple #[v, .int .i64 (res.2.1 : Int), .int .i64 res.2.2]) ∧ Sl w' v res.1 ∧ Below w.heap.size w w'
theorem JDec.bad {w w' : World} {c : Int} (h : Below w.heap.size w w') : JDec w ([], 0, c) (.returned (.tuple #[.slice none 0 0, .int .i64 0, .int .i64 c])) w' := ⟨_, rfl, Sl.nil _, h⟩

set_option maxHeartbeats 4000000 in
theorem jdecode_arg (b : Value) (l : List Bool) (most : Int) (w : World) (hm : most < 0 ∨ 65536 < most) :
    Calls Tryz.prog 16 #[b, .int .i64 most] w (JDec w (If.decode l most)) := by
  have e : If.decode l most = ([], 0, 2) := by unfold If.decode; rw [if_pos hm]
  rw [e]
  clear e
  rcases hm with hm | hm
  · have d1 : decide (most < 0) = true := by simpa using hm
    go_enter Tryz.func16, Tryz.ntmps16
    go_wp2
    exact bodyPost_ret (v := .tuple #[.slice none 0 0, .int .i64 0, .int .i64 2]) (by simp [results, Tryz.results16, go_sem]) rfl (JDec.bad (Below.refl _ _))
  · have d1 : decide (most < 0) = false := by simp; omega
    have d2 : decide (65536 < most) = true := by simpa using hm
    go_enter Tryz.func16, Tryz.ntmps16
    go_wp2
    exact bodyPost_ret (v := .tuple #[.slice none 0 0, .int .i64 0, .int .i64 2]) (by simp [results, Tryz.results16, go_sem]) rfl (JDec.bad (Below.refl _ _))

set_option maxRecDepth 100000 in
set_option maxHeartbeats 8000000 in
theorem jdecode_in (a : Option Addr) (len cap : Nat) (l : List Bool) (most N : Nat) (w : World) (hs : Sl w (.slice a len cap) (Bs.pack l)) (hl : Hid (8 * len = l.length)) (hN : Hid (N = l.length)) (h9 : len ≤ 1000000) (hcp : len ≤ cap) (hm : most ≤ 65536) (res : List Nat × Nat × Int) (hres : Hid (Unit → If.decode l most = res)) :
    Calls Tryz.prog 16 #[.slice a len cap, .int .i64 (most : Int)] w (JDec w res) := by
  have d1 : decide ((most : Int) < 0) = false := by simp
  have d2 : decide (65536 < (most : Int)) = false := by simp; omega
  have d3 : decide (65536 < most) = false := by simp; omega
  have hmul : IntKind.i64.wrap (8 * (len : Int)) = (N : Int) := by rw [IntWalk.i64_in _ (by omega)]; have := hl.out; have := hN.out; omega
  have hb1 := below1 w (jdiO a len cap N most)
  obtain ⟨fin, hfin⟩ : ∃ fin, If.blocks l most (l.length + 1) [] 0 = fin := ⟨_, rfl⟩
  have hdec : res = if fin.2.2 ≠ 0 then ([], 0, fin.2.2) else (fin.1, (fin.2.1 + 7) / 8, 0) := by
    rw [← hres.out ()]
    unfold If.decode
    rw [if_neg (by omega), Int.toNat_natCast, hfin]
  have HDEC := Lib.hid (fun _ : Unit => hdec)
  have hSt : Ds (fun k => k < w.heap.size) w.heap.size (.slice a len cap) l N most (w.alloc (jdiO a len cap N most)) 0 [] := by
    refine ⟨fun k hk => by simp; omega, fun hk => Nat.lt_irrefl _ hk, hs.later hb1, fun a' len' cap' b off e hl' ha => ?_, Nat.zero_le _, Nat.zero_le _, fun x hx => (nomatch hx), .slice none 0 0, Has.new w _, ⟨rfl, Or.inl ⟨rfl, rfl⟩⟩, fun q hq => by simp [Value.ownBlock] at hq⟩
    obtain ⟨a2, n2, c2, e2, _, _, _, _, h5⟩ := hs
    rw [e] at e2
    injection e2 with e3 e4 _
    obtain ⟨b', off', e5, hlt, _⟩ := h5 (by omega)
    rw [← e3, ha] at e5
    injection e5 with e5
    injection e5 with e5 _ _
    omega
  have HS := Lib.hid hSt
  have h8 : Hid (N % 8 = 0) := by show _ = _; have := hl.out; have := hN.out; omega
  have HCAP : Hid (∀ a' len' cap', (Value.slice a len cap) = .slice a' len' cap' → len' ≤ cap') := fun a' len' cap' e => by injection e with _ e1 e2; omega
  have hN9 : N ≤ 2251799813685248 := by have := hl.out; have := hN.out; omega
  have HFR : Hid (Fr (fun k => k < w.heap.size) w (w.alloc (jdiO a len cap N most))) := Fr.of_below (fun k hk => hk) hb1
  have HFIN := Lib.hid (fun _ : Unit => hfin)
  obtain ⟨W, hW⟩ : ∃ W, w.alloc (jdiO a len cap N most) = W := ⟨_, rfl⟩
  rw [hW] at HS HFR
  obtain ⟨K, hK⟩ : ∃ K : Nat → Prop, K = (fun k => k < w.heap.size) := ⟨_, rfl⟩
  rw [← hK] at HS HFR
  have HKB : Hid (∀ k, k < w.heap.size → K k) := by show ∀ _, _; rw [hK]; exact fun k h => h
  clear hK
  unfold jdiO at hW
  obtain ⟨R, hR⟩ : ∃ R, R = w.heap.size := ⟨_, rfl⟩
  rw [← hR] at HS
  clear hs hres hb1 hdec hSt hfin
  go_enter Tryz.func16, Tryz.ntmps16
  go_wp2_with fail
  try rw [hW]
  try rw [← hR]
  clear hW hR hmul d1 d2 d3 hcp h9
  go_loopw [24] (fun _ wr => ∃ (k' p : Nat) (ou : List Nat), Hid (N < p + k') ∧ Hid (Ds K R (.slice a len cap) l N most wr p ou) ∧ Hid (Fr K w wr) ∧ Hid (Unit → If.blocks l most k' ou p = fin)) (fun _ wr => N - placeOf R wr)
  case atStart => exact ⟨l.length + 1, 0, [], by show _ < _; have := hN.out; omega, HS.out, HFR.out, fun u => HFIN.out u⟩
  case round =>
    obtain ⟨k', p, ou, HK, KS, KF, KR⟩ := hrel
    have hpn := KS.out.pn
    obtain ⟨k2, rfl⟩ : ∃ k2, k' = k2 + 1 := ⟨k' - 1, by have := HK.out; omega⟩
    have hb := KR.out ()
    rw [If.blocks_succ] at hb
    obtain ⟨bk, hbk⟩ : ∃ bk, If.block l most p ou = bk := ⟨_, rfl⟩
    have hbf := @If.block_facts l most p ou
    rw [hbk] at hb hbf
    have HB := Lib.hid (jblock_any KS.out hN hN9 h8 hm HCAP bk (fun _ => hbk))
    have HPL := Lib.hid KS.out.place
    obtain ⟨la, hla⟩ : ∃ la, la = Hd.num l p 1 := ⟨_, rfl⟩
    rw [← hla] at HB hb
    have HB2 := Lib.hid (fun _ : Unit => hb)
    have HBF := Lib.hid (fun _ : Unit => hbf)
    clear hb hbf hbk KR hla KS hpn
    go_wp2_with fail
    refine HB.out.mono ?_
    clear HB
    intro e w1 ho
    obtain ⟨o1, p1, c1⟩ := bk
    by_cases hc : c1 = 0
    · subst hc
      obtain ⟨rfl, hS1⟩ := ho.2.1 rfl
      have HF1 := Lib.hid (KF.out.trans ho.1)
      have HS1 := Lib.hid hS1
      have hb := HB2.out ()
      rw [if_neg (by simp)] at hb
      have hbf := HBF.out () rfl
      have HB3 := Lib.hid (fun _ : Unit => hb)
      have HBF3 := Lib.hid hbf
      clear ho hS1 hb hbf HB2 HBF KF
      by_cases hla1 : la = 1
      · subst hla1
        have hb := HB3.out ()
        rw [if_pos rfl] at hb
        subst hb
        have hres := HDEC.out ()
        simp only [ne_eq, not_true_eq_false, if_false] at hres
        subst hres
        obtain ⟨ov, hx, hown, _⟩ := HS1.out.has
        obtain ⟨_, _, c2, c3, _⟩ := jdi_cells hx
        obtain ⟨oa, oc, rfl⟩ := own_shape hown
        have hle := HS1.out.le
        have hb8 := HS1.out.b8
        have HSL := Lib.hid (Sl.owned hown hb8 (by omega))
        have hp1 := HS1.out.pn
        clear hx hown HB3 HDEC hb8
        go_wp2
        go_quiet (fail)
        go_wp2
        have e7 : ((p1 : Int) + 7) / 8 = (((p1 + 7) / 8 : Nat) : Int) := by omega
        refine bodyPost_ret (v := .tuple #[.slice oa o1.length oc, .int .i64 (((p1 + 7) / 8 : Nat) : Int), .int .i64 0]) (by simp [results, Tryz.results16, go_sem]) rfl ⟨_, rfl, HSL.out, below_drewN (HF1.out.below HKB.out) _⟩
      · have hb := HB3.out ()
        rw [if_neg hla1] at hb
        have HB6 := Lib.hid (fun _ : Unit => hb)
        have dl : ((la : Int) == 1) = false := by simp; omega
        have dl2 : (la == 1) = false := by simp; omega
        clear hb HB3 hla1
        go_wp2
        go_roundw
        case rel => exact ⟨k2, p1, o1, by show _ < _; have h1 := HK.out; have h2 := HBF3.out; omega, HS1.out, HF1.out, fun _ => HB6.out ()⟩
        case measure => have h1 := HPL.out; have h2 := HBF3.out; have h4 := HS1.out.place; rw [h1, h4]; have h3 := hN.out; omega
    · obtain ⟨v, rfl⟩ := ho.2.2 hc
      have hb := HB2.out ()
      rw [if_pos hc] at hb
      subst hb
      have hres := HDEC.out ()
      simp only at hres
      rw [if_pos hc] at hres
      subst hres
      have HF1 := Lib.hid (KF.out.trans ho.1)
      have e9 : (c1 != 0) = true := by rw [bne_iff_ne]; exact hc
      have HC := Lib.hid hc
      clear ho hc HB2 HBF HDEC HFIN
      go_wp2
      refine bodyPost_ret (v := .tuple #[.slice none 0 0, .int .i64 0, .int .i64 c1]) (by simp [results, Tryz.results16, go_sem]) rfl (JDec.bad (HF1.out.below HKB.out))
end Go.Proofs.YtnjlljdbghcobaaGreatDoor

/- InflateDecodes, walked: of any slice of bytes, also of one that the law makes itself. -/
namespace Go.Proofs.YtnjlljdbghcobaaGreatDoor
set_option maxRecDepth 100000
open Go.RowKit

/-- What the document's Decode answers, of a slice of bytes. -/
theorem jdec_is (a : Option Addr) (len cap : Nat) (bs : List Nat) (most : Int) (w : World) (hs : Sl w (.slice a len cap) bs) (hcp : len ≤ cap) (h9 : len ≤ 1000000) (out : List Nat) (n : Nat) (c : Int) (hd : If.decode (If.bb bs) most = (out, n, c)) :
    Calls Tryz.prog 16 #[.slice a len cap, .int .i64 most] w fun e w' => ∃ a2 cap2, e = .returned (.tuple #[.slice a2 out.length cap2, .int .i64 (n : Int), .int .i64 c]) ∧ Sl w' (.slice a2 out.length cap2) out ∧ Below w.heap.size w w' := by
  have key : Calls Tryz.prog 16 #[.slice a len cap, .int .i64 most] w (JDec w (out, n, c)) := by
    by_cases hm : most < 0 ∨ 65536 < most
    · rw [← hd]
      exact jdecode_arg _ _ most w hm
    · obtain ⟨m, rfl⟩ : ∃ m : Nat, most = (m : Int) := ⟨most.toNat, by omega⟩
      have h8 : ∀ x ∈ bs, x < 256 := sl_byte hs
      have hlen := hs.len.1
      exact jdecode_in a len cap (If.bb bs) m (If.bb bs).length w (by rw [If.bb_pack bs h8]; exact hs) (by show _ = _; rw [If.bb_length, hlen]) rfl (by omega) hcp (by omega) _ (fun _ => hd)
  refine key.mono ?_
  rintro e w' ⟨v, rfl, ho, hb⟩
  simp only at ho
  obtain ⟨a2, len2, cap2, rfl, hl⟩ := ho.shape
  subst hl
  exact ⟨a2, cap2, rfl, ho, hb⟩

set_option maxHeartbeats 8000000 in
theorem decodes_beyond (a : Option Addr) (len cap : Nat) (most : Int) (w : World) (hg : GG w) (h : 600 < len) :
    Calls Tryz.prog 3 #[.slice a len cap, .int .i64 most] w fun e w' => e = .returned (.bool true) ∧ Below w.heap.size w w' := by
  have HL := Lib.hid (tail_lives (Below.refl w.heap.size w) hg)
  have d1 : decide ((600 : Int) < (len : Int)) = true := by simp; omega
  have d1' : decide (600 < len) = true := by simp; omega
  clear hg h
  go_enter Tryz.func3, Tryz.ntmps3
  go_wp2_with fail
  refine HL.out.mono ?_
  rintro e w' ⟨rfl, hb⟩
  have HB := Lib.hid hb
  clear hb HL
  go_wp2
  go_ret
  exact ⟨rfl, HB.out⟩

set_option maxHeartbeats 8000000 in
theorem decodes_in (a : Option Addr) (len cap : Nat) (bs : List Nat) (most : Int) (w : World) (hs : Sl w (.slice a len cap) bs) (hcp : len ≤ cap) (hg : GG w) (h : len ≤ 600) :
    Calls Tryz.prog 3 #[.slice a len cap, .int .i64 most] w fun e w' => e = .returned (.bool true) ∧ Below w.heap.size w w' := by
  have hlen := hs.len.1
  obtain ⟨out, n, c, hd⟩ : ∃ out n c, If.decode (If.bb bs) most = (out, n, c) := ⟨_, _, _, rfl⟩
  obtain ⟨g2, p2, w2, hr2, ho2, hb2⟩ := bytes_first w a len cap bs 22 hs (by omega)
  have hs2 : Sl w2 (.slice (some ⟨g2, 0, none⟩) len p2) bs := Sl.owned ho2 (sl_byte hs) (by omega)
  have HD1 := Lib.hid (dec_is _ bs most w2 hs2 (by omega) (hg.later hb2) _ _ _ hd)
  have HD2 := Lib.hid (fun W (hb : Below w.heap.size w W) => jdec_is a len cap bs most W (hs.later hb) hcp (by omega) _ _ _ hd)
  have HG := Lib.hid hg
  have HSA := Lib.hid hs
  have HS2 := Lib.hid hs2
  have HB2 := Lib.hid hb2
  have HR2 := Lib.hid hr2
  have d1 : decide ((600 : Int) < (len : Int)) = false := by simp; omega
  have d1' : decide (600 < len) = false := by simp; omega
  obtain ⟨q, hq⟩ : ∃ q, q = out.length := ⟨_, rfl⟩
  rw [← hq] at HD1 HD2
  obtain ⟨S, hS⟩ : ∃ S, S = strB out := ⟨_, rfl⟩
  obtain ⟨T, hT⟩ : ∃ T, T = strB bs := ⟨_, rfl⟩
  have HS := Lib.hid hS
  have HT := Lib.hid hT
  clear hg hs hlen hd hq hS hT hr2 ho2 hb2 hs2 hcp
  go_enter Tryz.func3, Tryz.ntmps3
  go_wp2_with (at_builtin; (refine wpList_append_is rfl (.tmp 16) (.tmp 17) 22 rfl _ _ _ _ rfl rfl HR2.out ?_))
  refine HD1.out.mono ?_
  clear HD1
  rintro e w3 ⟨a3, c3, rfl, hs3, hb3, _, _⟩
  have HB3 := Lib.hid (HB2.out.trans (hb3.mono HB2.out.size))
  have HS3 := Lib.hid hs3
  have HS2b := Lib.hid (HS2.out.later hb3)
  clear hs3 hb3 HS2 HB2 HR2
  go_wp2_with fail
  refine (HD2.out _ HB3.out).mono ?_
  clear HD2
  rintro e w4 ⟨a4, c4, rfl, hs4, hb4⟩
  have HB4 := Lib.hid (HB3.out.trans (hb4.mono HB3.out.size))
  have r1 := string_of w4 a3 q c3 _ S (HS3.out.later hb4) HS.out
  have r2 := string_of w4 a4 q c4 _ S hs4 HS.out
  have r3 := string_of w4 _ len p2 _ T (HS2b.out.later hb4) HT.out
  have r4 := string_of w4 a len cap _ T (HSA.out.later HB4.out) HT.out
  have HL := Lib.hid (tail_lives HB4.out HG.out)
  clear hs4 hb4 HS3 HS2b HB3
  go_wp2_with fail
  refine HL.out.mono ?_
  rintro e w' ⟨rfl, hb⟩
  have HB := Lib.hid hb
  clear hb HL r1 r2 r3 r4
  go_wp2
  go_ret
  exact ⟨rfl, HB.out⟩

theorem decodes_any (a : Option Addr) (len cap : Nat) (bs : List Nat) (most : Int) (w : World) (hs : Sl w (.slice a len cap) bs) (hcp : len ≤ cap) (hg : GG w) :
    Calls Tryz.prog 3 #[.slice a len cap, .int .i64 most] w fun e w' => e = .returned (.bool true) ∧ Below w.heap.size w w' := by
  by_cases h : 600 < len
  · exact decodes_beyond a len cap most w hg h
  · exact decodes_in a len cap bs most w hs hcp hg (by omega)
end Go.Proofs.YtnjlljdbghcobaaGreatDoor

/- What a tied row's condition gives: both package-level variables, opened; a world that meets it. -/
namespace Go.Proofs.YtnjlljdbghcobaaGreatDoor
set_option maxRecDepth 100000
open Go.ChangeShapes Go.WideShapes Go.ChangeAt Go.WideElems Go.RowKit

abbrev laid2 : List (String × DataW Unit) := [("errors.errorType", Rows.laid_errors_errorType), ("valise/header.order", Rows.laid_valise_header_order)]

theorem g_et : Tryz.prog.globalNamed "errors.errorType" = some 0 := by kernel_rfl
theorem g_ord : Tryz.prog.globalNamed "valise/header.order" = some 1 := by kernel_rfl
theorem t_ord : (Tryz.prog.globals[1]?).map (·.type) = some 249 := by kernel_rfl
theorem t_rt : (Tryz.prog.cutTypes.find? (·.1 == "internal/reflectlite.rtype")).map (·.2) = some 203 := by kernel_rfl
theorem n_types : Tryz.prog.types.size = 317 := by kernel_rfl
theorem one_row : ((List.range 317).filter fun t => Tryz.prog.rowNamed t [101, 114, 114, 111, 114]) = [111] := by kernel_rfl

theorem door_met (os : Os) (args : Array Value) : laidMetH Tryz.prog laid2 ((World.doorLaid Tryz.prog 400 os).forCall (fun _ _ => 0) ⟨#[], args, []⟩).memory :=
  laidMetH_of_parts (laidMet_of_run' 8 (by kernel_rfl) (by kernel_rfl)) (by kernel_rfl)

theorem ord_is (k : Nat) (hk : k < 19) (x : DataW Unit × List MemPlace) (xs : List (DataW Unit × List MemPlace)) (hx : xs[k]? = some x) (h : (.agg (xs.map (·.1)) : DataW Unit) = Rows.laid_valise_header_order) : x.1 = .lit (.int .i64 (Hd.ord k : Int)) := by
  unfold Rows.laid_valise_header_order at h
  injection h with h
  have h2 : (xs.map (·.1))[k]? = some x.1 := by rw [List.getElem?_map, hx]; rfl
  rw [h] at h2
  match k, hk with
  | 0, _ => exact (Option.some.inj h2).symm
  | 1, _ => exact (Option.some.inj h2).symm
  | 2, _ => exact (Option.some.inj h2).symm
  | 3, _ => exact (Option.some.inj h2).symm
  | 4, _ => exact (Option.some.inj h2).symm
  | 5, _ => exact (Option.some.inj h2).symm
  | 6, _ => exact (Option.some.inj h2).symm
  | 7, _ => exact (Option.some.inj h2).symm
  | 8, _ => exact (Option.some.inj h2).symm
  | 9, _ => exact (Option.some.inj h2).symm
  | 10, _ => exact (Option.some.inj h2).symm
  | 11, _ => exact (Option.some.inj h2).symm
  | 12, _ => exact (Option.some.inj h2).symm
  | 13, _ => exact (Option.some.inj h2).symm
  | 14, _ => exact (Option.some.inj h2).symm
  | 15, _ => exact (Option.some.inj h2).symm
  | 16, _ => exact (Option.some.inj h2).symm
  | 17, _ => exact (Option.some.inj h2).symm
  | 18, _ => exact (Option.some.inj h2).symm

/-- What the condition gives a walk. -/
theorem gg_of_laid {W : World} (h : laidMetH Tryz.prog laid2 W) : GG W := by
  have h' : laidMet Tryz.prog [("valise/header.order", Rows.laid_valise_header_order)] W ∧ handlesMet Tryz.prog [("errors.errorType", Rows.laid_errors_errorType)] W := h
  obtain ⟨hd, hh⟩ := h'
  constructor
  · obtain ⟨ps, ⟨g0, t0, cs0, f0, p0, q0, hg0, ht0, hv0, hd0, _, _⟩, _, _⟩ := hd
    obtain rfl := Option.some.inj (g_ord.symm.trans hg0)
    obtain rfl := Option.some.inj (t_ord.symm.trans ht0)
    obtain ⟨xs, m1, rfl, hx1, hlen, hn3, hel⟩ := DataW.trod_array Tryz.underlying249 hd0
    have c3 : Tryz.prog.cellsOf 3 = 1 := by kernel_rfl
    simp only [Prod.mk.injEq] at hx1
    intro k hk
    have h0 := hel k hk
    have hxk := List.getElem?_eq_getElem (show k < xs.length by omega)
    rw [hxk] at h0
    have ho := ord_is k hk _ xs hxk hx1.1.symm
    obtain ⟨n, e1, e2, _⟩ := DataW.trod_int Tryz.underlying3 h0
    rw [e2] at ho
    have hn : n = (Hd.ord k : Int) := by simpa using ho
    subst hn
    rw [c3] at e1
    have hcell := World.var?_cell hg0 hv0 k
    rw [hcell]
    have : cs0.toList[k]? = some (.int .i64 (Hd.ord k : Int)) := by
      have h1 : ((cs0.toList.drop (k * 1)).take 1)[0]? = some (.int .i64 (Hd.ord k : Int)) := by rw [e1]; rfl
      rw [List.getElem?_take_of_lt (by omega), List.getElem?_drop] at h1
      simpa using h1
    simpa using this
  · obtain ⟨name, u, ty, e1, e2, e3, e4, e5⟩ := hh _ (List.mem_singleton.2 rfl)
    have en : name = [101, 114, 114, 111, 114] := (Option.some.inj e1).symm
    subst en
    obtain rfl := Option.some.inj (t_rt.symm.trans e2)
    have hm : ty ∈ (List.range 317).filter fun t => Tryz.prog.rowNamed t [101, 114, 114, 111, 114] := List.mem_filter.2 ⟨List.mem_range.2 (by rw [← n_types]; exact e3), e4⟩
    rw [one_row] at hm
    obtain rfl := List.mem_singleton.1 hm
    have hh2 : typeHandle Tryz.prog 111 = .pointer (some ⟨2, 111, none⟩) := by kernel_rfl
    rw [hh2] at e5
    unfold GlobE
    simpa using World.var?_cell g_et e5 0
end Go.Proofs.YtnjlljdbghcobaaGreatDoor

/- How the arguments of the statements read: slices of bytes, numbers. -/
namespace Go.Proofs.YtnjlljdbghcobaaGreatDoor
set_option maxRecDepth 100000
open Go.ChangeShapes Go.WideShapes Go.ChangeAt Go.RowKit Go.Joins

theorem Tryz.cellsU8 : Tryz.prog.cellsOf 5 = 1 := by kernel_rfl
theorem Tryz.bytesU8 : Tryz.prog.bytesOf 5 = 1 := by kernel_rfl
theorem Tryz.own : ownKnob Tryz.prog.godebug = none := by kernel_rfl
theorem Tryz.laidOut : laidOutB Tryz.prog = true := by kernel_rfl

theorem wf_bounds {n : Int} (h : (Lit.int .i64 n).wf = true) : -9223372036854775808 ≤ n ∧ n ≤ 9223372036854775807 := by
  have := bounds_i64 h
  omega

theorem wf_u8 {n : Int} (h : (Lit.int .u8 n).wf = true) : 0 ≤ n ∧ n ≤ 255 := by
  have := bounds_u8 h
  omega

/-- A slice of bytes that came in. -/
theorem sl_open {H : Type} {enc : TypeId × Value → H} {W : World} {fuel : Nat} {cs : List Value} {x : DataW H × List MemPlace}
    (h : DataW.trod enc Tryz.prog W 0 (fun _ => true) true fuel 22 cs = some x) (hw : ∀ n ∈ x.1.weights Tryz.prog 22, n ≤ reachBytes) :
    ∃ s bs, cs = [s] ∧ Sl W s bs ∧ bs.length ≤ 140737488351232 := by
  rcases open_ints Tryz.underlying22 Tryz.underlying5 Tryz.cellsU8 h with ⟨rfl, rfl⟩ | ⟨a, len, cap, zs, rfl, _, hl, hm, hz, rfl, hcell, hwz⟩
  · exact ⟨_, [], rfl, Sl.nil W, by simp⟩
  · have hz' : zs.length = cap := by simpa using hz
    have hr : cap ≤ 140737488351232 := by
      have := hw (cap * 1) (by
        simp only [DataW.weights, Tryz.underlying22, Tryz.bytesU8]
        simp [lits, hz']
        left
        omega)
      unfold reachBytes at this
      omega
    refine ⟨_, (zs.take len).map Int.toNat, rfl, ⟨some a, len, cap, rfl, by simp; omega, by omega, fun h => by simp at h, ?_, fun h0 => ?_⟩, by simp; omega⟩
    · intro y hy
      simp only [List.mem_map] at hy
      obtain ⟨z, hz1, rfl⟩ := hy
      have := wf_u8 (hwz z (List.mem_of_mem_take hz1))
      omega
    · obtain ⟨b, off, spot⟩ := a
      have hc0 := hcell 0 (by omega)
      have hspot : spot = none := by simpa [Addr.add] using World.cell?_spot hc0
      subst hspot
      refine ⟨b, off, rfl, ?_, fun i hi => ?_⟩
      · have := World.block_lt_of_cell? W _ hc0
        simpa [Addr.add] using this
      · have hc := hcell i (by omega)
        have e : (⟨b, off, none⟩ : Addr).add i = ⟨b, off + i, none⟩ := by cases i <;> simp [Addr.add]
        rw [e] at hc
        rw [hc]
        have hi' : i < zs.length := by omega
        have := wf_u8 (hwz zs[i] (List.getElem_mem hi'))
        simp [hi, List.getElem?_eq_getElem hi', List.getD]
        omega

/-- A slice of bytes as an argument. -/
theorem bytes_open {H : Type} {enc : TypeId × Value → H} {W : World} {base : Nat} {v : Value} {d : DataW H} {p : List MemPlace} (hv : Value.okWide Tryz.prog W .any base 22 v)
    (h : DataW.Trod enc Tryz.prog W 0 (fun _ => true) true 22 v d p) (hw : ∀ n ∈ d.weights Tryz.prog 22, n ≤ reachBytes) :
    ∃ bs, Sl W v bs ∧ bs.length ≤ 140737488351232 := by
  obtain ⟨a1, len, cap, rfl⟩ := okWide_slice Tryz.underlying22 hv
  obtain ⟨fuel, hf⟩ := h
  obtain ⟨s, bs, e, hs, hl⟩ := sl_open hf hw
  simp [Value.cells] at e
  subst e
  exact ⟨bs, hs, hl⟩

theorem u32_nat {n : Int} (h : (Lit.int .u32 n).wf = true) : ∃ m : Nat, n = (m : Int) ∧ m < 4294967296 := by
  have := bounds_u32 h
  exact ⟨n.toNat, by omega, by omega⟩
end Go.Proofs.YtnjlljdbghcobaaGreatDoor

/- A slice of bytes that came in is not longer than its capacity. -/
namespace Go.Proofs.YtnjlljdbghcobaaGreatDoor
set_option maxRecDepth 100000
open Go.ChangeShapes Go.WideShapes Go.ChangeAt Go.RowKit Go.Joins

/-- A slice's length is within its capacity. -/
def Capped (v : Value) : Prop := ∀ a len cap, v = .slice a len cap → len ≤ cap

theorem bytes_cap {H : Type} {enc : TypeId × Value → H} {W : World} {base : Nat} {v : Value} {d : DataW H} {p : List MemPlace} (hv : Value.okWide Tryz.prog W .any base 22 v)
    (h : DataW.Trod enc Tryz.prog W 0 (fun _ => true) true 22 v d p) : Capped v := by
  obtain ⟨a1, len, cap, rfl⟩ := okWide_slice Tryz.underlying22 hv
  obtain ⟨fuel, hf⟩ := h
  intro a2 len2 cap2 e
  injection e with e1 e2 e3
  subst e1 e2 e3
  rcases open_ints Tryz.underlying22 Tryz.underlying5 Tryz.cellsU8 hf with ⟨hcs, _⟩ | ⟨a, len', cap', zs, hcs, _, hl, _⟩
  · simp [Value.cells] at hcs
    omega
  · simp [Value.cells] at hcs
    omega
end Go.Proofs.YtnjlljdbghcobaaGreatDoor

/- InflateStored: its argument, its loop. -/
namespace Go.Proofs.YtnjlljdbghcobaaGreatDoor
set_option maxRecDepth 100000
open Go.ChangeShapes Go.WideShapes Go.ChangeAt Go.RowKit Go.Joins

/-- A slice of bytes that came in and is not long. -/
theorem sl_small {H : Type} {enc : TypeId × Value → H} {W : World} {fuel : Nat} {cs : List Value} {x : DataW H × List MemPlace}
    (h : DataW.trod enc Tryz.prog W 0 (fun _ => true) true fuel 22 cs = some x) : ∃ a len cap, cs = [.slice a len cap] ∧ (len ≤ 3000 → ∃ bs, Sl W (.slice a len cap) bs) := by
  rcases open_ints Tryz.underlying22 Tryz.underlying5 Tryz.cellsU8 h with ⟨rfl, rfl⟩ | ⟨a, len, cap, zs, rfl, _, hl, hm, hz, rfl, hcell, hwz⟩
  · exact ⟨_, _, _, rfl, fun _ => ⟨[], Sl.nil W⟩⟩
  · have hz' : zs.length = cap := by simpa using hz
    refine ⟨_, _, _, rfl, fun h3 => ⟨(zs.take len).map Int.toNat, some a, len, cap, rfl, by simp; omega, by omega, fun h => by simp at h, ?_, fun h0 => ?_⟩⟩
    · intro y hy
      simp only [List.mem_map] at hy
      obtain ⟨z, hz1, rfl⟩ := hy
      have := wf_u8 (hwz z (List.mem_of_mem_take hz1))
      omega
    · obtain ⟨b, off, spot⟩ := a
      have hc0 := hcell 0 (by omega)
      have hspot : spot = none := by simpa [Addr.add] using World.cell?_spot hc0
      subst hspot
      refine ⟨b, off, rfl, ?_, fun i hi => ?_⟩
      · have := World.block_lt_of_cell? W _ hc0
        simpa [Addr.add] using this
      · have hc := hcell i (by omega)
        have e : (⟨b, off, none⟩ : Addr).add i = ⟨b, off + i, none⟩ := by cases i <;> simp [Addr.add]
        rw [e] at hc
        rw [hc]
        have hi' : i < zs.length := by omega
        have := wf_u8 (hwz zs[i] (List.getElem_mem hi'))
        simp [hi, List.getElem?_eq_getElem hi', List.getD]
        omega

/-- A slice of slices of bytes. -/
def Bss (W : World) (v : Value) : Prop := ∃ a n cap, v = .slice a n cap ∧
  (0 < n → ∃ b off, a = some ⟨b, off, none⟩ ∧ b < W.heap.size ∧ ∀ i, i < n → ∃ ai li ci, W.cell? ⟨b, off + i, none⟩ = some (.slice ai li ci) ∧ (li ≤ 3000 → ∃ bs, Sl W (.slice ai li ci) bs))

theorem bytess_open {H : Type} {enc : TypeId × Value → H} {W : World} {v : Value} {d : DataW H} {p : List MemPlace} {base : Nat} (hv : Value.okWide Tryz.prog W .any base 147 v)
    (h : DataW.Trod enc Tryz.prog W 0 (fun _ => true) true 147 v d p) : Bss W v := by
  obtain ⟨a1, len, cap, rfl⟩ := okWide_slice Tryz.underlying147 hv
  obtain ⟨fuel, hf⟩ := h
  have hc1 : Tryz.prog.cellsOf 22 = 1 := by kernel_rfl
  refine ⟨a1, len, cap, rfl, fun h0 => ?_⟩
  rcases DataW.trod_slice Tryz.underlying147 hf with ⟨hcs, _⟩ | ⟨a, len', cap', elems, rest, n, _, hcs, hx, _, hl, _, hlen, hel, _⟩
  · simp [Value.cells] at hcs
    omega
  · simp [Value.cells] at hcs
    obtain ⟨rfl, rfl, rfl⟩ := hcs
    have key : ∀ i, i < len → ∃ c, W.cell? (a.add i) = some c ∧ ∃ y, DataW.trod enc Tryz.prog W 0 (fun _ => true) true n 22 [c] = some y := by
      intro i hi
      have hE := hel i hi
      rw [hc1, Nat.mul_one] at hE
      rw [List.getElem?_eq_getElem (by omega)] at hE
      simp only [Option.bind_eq_some_iff] at hE
      obtain ⟨c1, hc1, hy1⟩ := hE
      have e0 : (a.add i).add 0 = a.add i := by simp [Addr.add]
      have : ∃ c, c1 = [c] ∧ W.cell? (a.add i) = some c := by
        unfold World.cells? at hc1
        split at hc1
        · simp only [List.range_succ, List.range_zero, List.nil_append, List.mapM_cons, List.mapM_nil, e0] at hc1
          cases hcc : W.cell? (a.add i) with
          | none => simp [hcc] at hc1
          | some c => simp [hcc] at hc1; exact ⟨c, hc1.symm, rfl⟩
        · cases hc1
      obtain ⟨c, rfl, hcell⟩ := this
      exact ⟨c, hcell, _, hy1⟩
    obtain ⟨b, off, spot⟩ := a
    obtain ⟨c0, hc0, _⟩ := key 0 h0
    have hspot : spot = none := by simpa [Addr.add] using World.cell?_spot hc0
    subst hspot
    refine ⟨b, off, rfl, ?_, fun i hi => ?_⟩
    · have := World.block_lt_of_cell? W _ hc0
      simpa [Addr.add] using this
    · obtain ⟨c, hc, y, hy⟩ := key i hi
      have e : (⟨b, off, none⟩ : Addr).add i = ⟨b, off + i, none⟩ := by cases i <;> simp [Addr.add]
      rw [e] at hc
      obtain ⟨ai, li, ci, e2, e3⟩ := sl_small hy
      have : c = .slice ai li ci := by simpa using e2
      subst this
      exact ⟨ai, li, ci, hc, e3⟩

namespace If
/-- Stored blocks, none of them marked. -/
def pre0 (L : List (List Nat)) : List Nat := (L.map (blk 0)).flatten
theorem pre0_snoc (L : List (List Nat)) (x : List Nat) : pre0 (L ++ [x]) = pre0 L ++ blk 0 x := by simp [pre0]
theorem strm_snoc : ∀ (L : List (List Nat)) (x : List Nat), strm (L ++ [x]) = pre0 L ++ blk 1 x
  | [], x => by simp [strm, pre0]
  | [y], x => by simp [strm, pre0]
  | y :: z :: r, x => by
    have := strm_snoc (z :: r) x
    simp only [List.cons_append] at this
    simp only [List.cons_append, strm, this, pre0, List.map_cons, List.flatten_cons, List.append_assoc]
/-- What has been laid behind so many blocks of n. -/
def laidTo (n : Nat) (L : List (List Nat)) : List Nat := if L.length = n then strm L else pre0 L
theorem laidTo_snoc (n : Nat) (L : List (List Nat)) (x : List Nat) (h : L.length < n) : laidTo n (L ++ [x]) = laidTo n L ++ blk (if L.length + 1 = n then 1 else 0) x := by
  unfold laidTo
  rw [if_neg (by omega : ¬ L.length = n), List.length_append, List.length_singleton]
  by_cases h1 : L.length + 1 = n
  · rw [if_pos h1, if_pos h1, strm_snoc]
  · rw [if_neg h1, if_neg h1, pre0_snoc]
theorem laidTo_nil (n : Nat) : laidTo n [] = [] := by unfold laidTo; split <;> rfl
end If

theorem strB_size (x : List Nat) : (strB x).size = x.length := by unfold strB; rw [strOfNums_size, List.length_map]
theorem strB_append (x y : List Nat) : strB (x ++ y) = strB x ++ strB y := by
  apply ByteArray.ext
  rw [ByteArray.data_append]
  unfold strB strOfNums
  simp

theorem u8_not (a : Nat) (h : a < 256) : bits .xor .u8 IntKind.u8.max (a : Int) = ((255 - a : Nat) : Int) := by
  have e : (IntKind.u8.max : Int) = ((255 : Nat) : Int) := rfl
  rw [e, u8_xor_nat 255 a (by decide) h]
  congr 1
  apply Nat.eq_of_testBit_eq
  intro i
  rw [Nat.testBit_xor, show 255 - a = 2 ^ 8 - (a + 1) by omega, Nat.testBit_two_pow_sub_succ (by omega), show (255 : Nat) = 2 ^ 8 - (0 + 1) by rfl, Nat.testBit_two_pow_sub_succ (by omega)]
  by_cases hi : i < 8
  · simp [hi]
  · have : a.testBit i = false := Nat.testBit_lt_two_pow (Nat.lt_of_lt_of_le (show a < 2 ^ 8 by omega) (Nat.pow_le_pow_right (by omega) (by omega)))
    simp [hi, this]

/-- Bytes behind the call's own, from a block that holds them. -/
theorem bytes_lit (w : World) (base n : Nat) (v : Value) (bs : List Nat) (hown : w.ownsRow base 5 1 v n (vb bs)) (g m c : Nat) (xs : List Nat) (ty : TypeId) (hx : Has w g (bytesObj xs)) (hm : m = xs.length) (h0 : 0 < m) (h1 : n ≤ 1000000) (h2 : m ≤ 1000000) (hb : base ≤ w.heap.size) :
    ∃ g' cap' w', (Builtin.append_ #[22, 22] ty #[v, .slice (some ⟨g, 0, none⟩) m c]).run Tryz.prog w = .ok (.slice (some ⟨g', 0, none⟩) (n + m) cap') w' ∧
      w'.ownsRow base 5 1 (.slice (some ⟨g', 0, none⟩) (n + m) cap') (n + m) (vb (bs ++ xs)) ∧ w.grownBy w' v.ownBlock := by
  obtain ⟨i0, hi, hz0, hz1, hz2⟩ := info_parts Tryz.infoU8
  obtain ⟨v', w', hrun, r1, r2, r3⟩ := run_append_own (P := Tryz.prog) w base 22 ty 5 i0 (.int .u8 0) 1 1 Tryz.underlying22 hi hz0 hz1 hz2 rfl (by decide) v n (vb bs) hown ⟨g, 0, none⟩ m c (vb xs) (by rw [vb_length]; omega)
    (fun j u hj => by
      have e : (⟨g, 0, none⟩ : Addr).add j = ⟨g, j, none⟩ := by cases j <;> simp [Addr.add]
      have h' : Has w g (.cells (vb xs).toArray 5 (0, 0)) := hx
      rw [e, h'.cell, List.getElem?_toArray]
      exact hj)
    (oneCell_vb _) (by unfold maxLen; omega) (by omega) hb
  have hsh : ∃ g' cap', v' = .slice (some ⟨g', 0, none⟩) (n + m) cap' := by
    rcases r1.2 with ⟨_, h⟩ | ⟨g', cap', _, h, _⟩
    · omega
    · exact ⟨g', cap', h⟩
  obtain ⟨g', cap', rfl⟩ := hsh
  exact ⟨g', cap', w', hrun, by rw [vb_append]; exact r1, r2⟩

end Go.Proofs.YtnjlljdbghcobaaGreatDoor
