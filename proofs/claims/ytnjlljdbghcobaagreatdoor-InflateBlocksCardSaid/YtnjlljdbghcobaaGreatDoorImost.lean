/- Contract of inflate.Decode, walked. -/
import Derived.Test.YtnjlljdbghcobaaGreatDoorIdec1
import Derived.Test.YtnjlljdbghcobaaGreatDoorQtail
import Derived.Test.YtnjlljdbghcobaaGreatDoorIpst
import Derived.Test.YtnjlljdbghcobaaGreatDoorItake
import Derived.Laws.BytesArg
import Derived.Lib.SlBytesConst
import Derived.Laws.BytesString

namespace Go.Proofs.YtnjlljdbghcobaaGreatDoor
set_option maxRecDepth 100000
open Go.RowKit

theorem sl_obj {w : World} {g : Nat} {bs : List Nat} (h : Has w g (bytesObj bs)) (h8 : ∀ x ∈ bs, x < 256) (hl : bs.length ≤ 281474976710656) (m cap : Nat) (hm : m = bs.length) : Sl w (.slice (some ⟨g, 0, none⟩) m cap) bs := by
  refine ⟨_, m, cap, rfl, hm, by omega, fun h => by simp at h, h8, fun h0 => ⟨g, 0, rfl, h.lt, fun i hi => ?_⟩⟩
  have h' : Has w g (.cells (vb bs).toArray 5 (0, 0)) := h
  rw [Nat.zero_add, h'.cell, List.getElem?_toArray, vb_get, List.getElem?_eq_getElem (by omega)]
  rfl

theorem Only.belowB' {g B : Nat} {w w' : World} (h : Only g w w') (hB : B ≤ g) (hs : B ≤ w.heap.size) : Below B w w' :=
  ⟨h.os, h.tape, h.output, h.size, fun k hk => h.block k (by omega) (by omega)⟩

set_option maxHeartbeats 8000000 in
theorem decode_in (a : Option Addr) (len cap : Nat) (l : List Bool) (most N : Nat) (w : World) (hs : Sl w (.slice a len cap) (Bs.pack l)) (hl : Hid (8 * len = l.length)) (hN : Hid (N = l.length)) (h9 : len ≤ 1000000) (hm : most ≤ 65536) (hg : Glob w) (hge : GlobE w) (res : List Nat × Nat × Int) (hres : Hid (Unit → If.decode l most = res)) :
    Calls Tryz.prog 15 #[.slice a len cap, .int .i64 (most : Int)] w (DecPost w res) := by
  have hmf : ∀ (fn : Fn) (first cap : Array Value) (w : World), (Instr.makeFunc fn first cap).run Tryz.prog w = .ok (.func fn first cap) w := fun _ _ _ _ => rfl
  have hb2 := below2 w (.cells #[.int .i64 (most : Int)] 3) (.cells #[.slice none 0 0] 22)
  have HO := Lib.hid (fun W (hb : Below w.heap.size w W) => of_any a len cap l W (hs.later hb) hl (by omega))
  have hbox := (Has.new w (.cells #[.int .i64 (most : Int)] 3)).alloc (.cells #[.slice none 0 0] 22)
  obtain ⟨cm, _⟩ := hbox.one
  have HBX := Lib.hid hbox
  have HTD := Lib.hid (Has.new (w.alloc (.cells #[.int .i64 (most : Int)] 3)) (.cells #[.slice none 0 0] 22))
  obtain ⟨W0, hW0⟩ : ∃ W0, (w.alloc (.cells #[.int .i64 (most : Int)] 3)).alloc (.cells #[.slice none 0 0] 22) = W0 := ⟨_, rfl⟩
  rw [hW0] at hb2 cm HBX HTD
  have HS := Lib.hid hs
  have HG := Lib.hid hg
  have HGE := Lib.hid hge
  have d1 : decide ((most : Int) < 0) = false := by simp
  have d2 : decide (65536 < (most : Int)) = false := by simp; omega
  have d3 : decide (65536 < most) = false := by simp; omega
  have hlt : w.heap.size < W0.heap.size := by rw [← hW0]; simp; omega
  have hle := Nat.le_of_lt hlt
  have hb3 : Below w.heap.size w (W0.alloc (.cells #[.slice none 0 0, .int .i64 0, .int .i64 0, .slice none 0 0, .int .i64 0, .int .i64 0, .pointer none, .pointer none] 64)) := hb2.alloc hle _
  have hle3 : w.heap.size ≤ (W0.alloc (.cells #[.slice none 0 0, .int .i64 0, .int .i64 0, .slice none 0 0, .int .i64 0, .int .i64 0, .pointer none, .pointer none] 64)).heap.size := by simp; omega
  have HB2 := Lib.hid hb2
  clear hs hg hge hbox
  go_enter Tryz.func15, Tryz.ntmps15
  go_upto_region 4 with fail
  try rw [hW0]
  go_cut [8] from 16 to 19 (fun s8 wx => RdLaid W0 wx s8 l N most)
  case first =>
    go_region_held3 (fun wx => wx.cell? ⟨w.heap.size, 0, none⟩ = some (.int .i64 (most : Int))) (first | with_reducible exact cm | with_reducible exact cm1 | with_reducible exact cell_set8 hne0 cm1 _ _ _ _ _ _ _ _ | go_keep)
      (first | (go_at_call 33; refine (HO.out _ hb2.drew).mono ?_; rintro e w1 ⟨g, m, rfl, hmm, hgg, hx, hb⟩; have HMM := Lib.hid hmm; have HGG := Lib.hid hgg; have HXX := Lib.hid hx; have HBB := Lib.hid hb; clear hmm hgg hx; have cm1 := (hb.cell (p := ⟨w.heap.size, 0, none⟩) hlt).trans cm; have hl1 := Nat.lt_of_lt_of_le hlt hb.size; have hn1 := Nat.ne_of_lt hl1; clear hb) | (go_at_call 33; refine (HO.out _ hb3.drew).mono ?_; rintro e w1 ⟨g, m, rfl, hmm, hgg, hx, hb⟩; have HMM := Lib.hid hmm; have HGG := Lib.hid hgg; have HXX := Lib.hid hx; have HBB := Lib.hid hb; clear hmm hgg hx; have cm1 := (hb.cell (p := ⟨w.heap.size, 0, none⟩) (Nat.lt_of_lt_of_le hlt (by simp))).trans ((World.cell?_alloc_lt _ _ ⟨w.heap.size, 0, none⟩ hlt).trans cm); have hl1 := Nat.lt_of_lt_of_le hlt (Nat.le_trans (by simp) hb.size); have hn1 := Nat.ne_of_lt hl1; have hne0 := Nat.ne_of_lt hlt; have hz := Has.later (w := (W0.alloc (.cells #[.slice none 0 0, .int .i64 0, .int .i64 0, .slice none 0 0, .int .i64 0, .int .i64 0, .pointer none, .pointer none] 64)).drew) (Has.new W0 _) hb; have HZ := Lib.hid hz; obtain ⟨⟨z0, z1, z2, z3, z4, z5, z6, z7⟩, y0, y1, y2, y3, y4, y5, y6, y7⟩ := rd8 hz; clear hz hb))
    all_goals (go_wp2_with fail; go_meet; first | with_reducible exact RdLaid.one hN.out HMM.out HGG.out HXX.out HBB.out | exact RdLaid.two hN.out HMM.out HGG.out HXX.out HBB.out HZ.out)
  case rest =>
    obtain ⟨R, g, m, rfl, hR, hgl, hne, hx, hgx, hmm, hbw⟩ := hcut
    clear cm hb2 hb3 hle hle3 HO
    have hsz1 : W0.heap.size = w.heap.size + 1 + 1 := by rw [← hW0]; simp
    clear hW0
    have hM := HBX.out.later hbw
    have hD : Has wc (w.heap.size + 1) (.cells #[.slice none 0 0] 22 (0, 0)) := by have := HTD.out.later hbw; simpa using this
    have hb4 := below1 wc (.cells #[.int .i64 0] 24)
    have hE := Has.new wc (.cells #[.int .i64 0] 24)
    have hRl := hx.lt
    have hgl2 := hgx.lt
    have hws := hbw.size
    have hbw0 : Below w.heap.size w wc := HB2.out.trans (hbw.mono (Nat.le_of_lt hlt))
    have hbw4 := hbw0.trans (hb4.mono hbw0.size)
    have hlen := (HS.out.len).1
    have hSl : Sl (wc.alloc (.cells #[.int .i64 0] 24)) (.slice (some ⟨g, 0, none⟩) m m) (Bs.pack l) := (sl_obj hgx (Bs.pack_lt l) (by rw [Bs.pack_length]; have := hl.out; omega) m m (by rw [Bs.pack_length]; exact hmm)).later hb4
    obtain ⟨K0, hK0⟩ : ∃ K0 : Nat → Prop, K0 = fun k => k < w.heap.size ∨ k = g ∨ k = w.heap.size ∨ k = w.heap.size + 1 ∨ k = wc.heap.size := ⟨_, rfl⟩
    have hGl : Glob wc := HG.out.later hbw0
    have hord : 1 < w.heap.size := by
      have := HG.out 0 (by omega)
      rcases Nat.lt_or_ge 1 w.heap.size with h0 | h0
      · exact h0
      · rw [World.cell?, Array.getElem?_eq_none h0] at this; cases this
    have hSt : St K0 R (.slice (some ⟨g, 0, none⟩) m m) l N most (wc.alloc (.cells #[.int .i64 0] 24)) ⟨0, [], .pointer none, .pointer none⟩ := by
      refine ⟨fun k hk => ?_, fun hk => ?_, hSl, fun a' len' cap' b off e hl' ha => ?_, hGl.later hb4, ?_, Nat.zero_le _, If.Toks.nil, Nat.zero_le _, .slice none 0 0, hx.alloc _, ⟨rfl, Or.inl ⟨rfl, rfl⟩⟩, fun q hq => by simp [Value.ownBlock] at hq⟩
      · rw [hK0] at hk; simp; omega
      · rw [hK0] at hk; omega
      · rw [hK0]; injection e with e1; rw [← e1] at ha; injection ha with ha; injection ha with ha; exact Or.inr (Or.inl ha.symm)
      · rw [hK0]; exact Or.inl hord
    have hSx : Sx K0 R (.slice (some ⟨g, 0, none⟩) m m) l N most (wc.alloc (.cells #[.int .i64 0] 24)) ⟨0, [], .pointer none, .pointer none⟩ := ⟨K0, fun _ h => h, hSt, Or.inl rfl⟩
    have kM : K0 w.heap.size := by rw [hK0]; simp
    have kD : K0 (w.heap.size + 1) := by rw [hK0]; simp
    have kE : K0 wc.heap.size := by rw [hK0]; simp
    have kB : ∀ k, k < w.heap.size → K0 k := fun k hk => by rw [hK0]; exact Or.inl hk
    obtain ⟨fin, hfin⟩ : ∃ fin, If.blocks l most (l.length + 1) [] 0 = fin := ⟨_, rfl⟩
    have HD1 := Lib.hid (dec1_any w.heap.size (w.heap.size + 1) hSx (hM.alloc _) (hD.alloc _) kM kD hN (by have := hN.out; have := hl.out; omega) (by have h1 := hN.out; have h2 := hl.out; show _ = _; omega) hm (l.length + 1) (by have := hN.out; simp only; omega) fin (fun _ => hfin))
    have hdec : res = if fin.2.2 ≠ 0 then ([], 0, fin.2.2) else (fin.1, (fin.2.1 + 7) / 8, 0) := by
      rw [← hres.out ()]
      unfold If.decode
      rw [if_neg (by omega), Int.toNat_natCast, hfin]
    have HDEC := Lib.hid (fun _ : Unit => hdec)
    have HE := Lib.hid hE
    have HBW := Lib.hid hbw0
    have HKE := Lib.hid kE
    have HKB := Lib.hid kB
    have HGE4 := Lib.hid (HGE.out.later hbw4)
    have hf18 := Tryz.call35
    have hfp : fin.2.2 = 0 → fin.2.1 ≤ 2251799813685248 := by
      intro h
      have := (If.blocks_facts (most := most) (l.length + 1) [] 0 (Nat.zero_le _) (by omega) (l := l) (by rw [hfin]; exact h)).2
      rw [hfin] at this
      have := hl.out
      omega
    obtain ⟨fo, fp, c⟩ := fin
    have HFP0 := Lib.hid hfp
    clear hfp
    simp only at HDEC HD1
    have HRE : Hid (R ≠ wc.heap.size) := by show _ ≠ _; omega
    have hDE : w.heap.size + 1 ≠ wc.heap.size := by omega
    have HWS : Hid (w.heap.size + 1 + 1 ≤ wc.heap.size) := by show _ ≤ _; omega
    clear hR hgl hne hx hgx hmm hbw hM hD hb4 hE hRl hgl2 hws hbw0 hbw4 hlen hSl hGl hord hSt hSx kM kD kE kB hfin hdec hK0 HBX HTD HB2 hsz1 hlt
    by_cases hc : c = 0
    · subst hc
      have HFP : Hid (fp ≤ 2251799813685248) := HFP0.out rfl
      clear HFP0
      have hr := HDEC.out ()
      rw [if_neg (by simp)] at hr
      subst hr
      clear HDEC hres
      have HCA := Lib.hid (icaught_ok 35 #[.pointer (some ⟨R, 0, none⟩), .pointer (some ⟨w.heap.size, 0, none⟩), .pointer (some ⟨w.heap.size + 1, 0, none⟩)] wc
        (fun w' => Below w.heap.size wc w' ∧ ∃ v, Has w' (w.heap.size + 1) (.cells #[v] 22 (0, 0)) ∧ w'.ownsRow (wc.heap.size + 1) 5 1 v fo.length (vb fo) ∧ w'.cell? ⟨R, 2, none⟩ = some (.int .i64 (fp : Int)) ∧ (∀ x ∈ fo, x < 256) ∧ fo.length ≤ 65536) hf18 (HD1.out.mono (by
          intro e w' h
          rcases h with ⟨h, _⟩ | ⟨_, rfl, hf, v, h1, h2, h3, h4, h5⟩
          · exact absurd rfl h
          · have hws := HWS.out
            refine ⟨rfl, (hf.block _ ⟨HKE.out, fun e => hDE e.symm⟩).trans HE.out, ?_, v, h1, by simpa using h2, h3, h4, h5⟩
            have hb := hf.below (B := w.heap.size) (fun k hk => ⟨HKB.out k hk, by omega⟩)
            exact (Below.mono (below1 wc _) (by omega)).trans hb)))
      clear HD1 HKE HKB HGE4 HE
      go_wp2_with fail
      refine HCA.out.mono ?_
      clear HCA
      rintro e w5 ⟨rfl, w2, ⟨hb2, v, hv, hown, hp, hby, hbl⟩, rfl⟩
      have hws := HWS.out
      have hO := only_set w2 wc.heap.size 0 (.int .i64 0)
      have hvd := (hv.only hO hDE).one.1
      have hp2 : (w2.setCell ⟨wc.heap.size, 0, none⟩ (.int .i64 0)).cell? ⟨R, 2, none⟩ = some (.int .i64 (fp : Int)) := by
        rw [← hp]; exact cell_of_heap (Below.heap_setCell w2 ⟨wc.heap.size, 0, none⟩ _ R HRE.out) 2
      have hwl : w.heap.size ≤ wc.heap.size := by omega
      have hbf := HBW.out.trans ((hb2.mono (Nat.le_refl _)).trans (hO.belowB' (B := w.heap.size) hwl (Nat.le_trans hwl hb2.size)))
      obtain ⟨av, nv, cv, rfl⟩ : ∃ a n c, v = .slice a n c := by obtain ⟨a, c, h⟩ := own_shape hown; exact ⟨a, _, c, h⟩
      have HBY := Lib.hid hby
      have HBL := Lib.hid hbl
      clear hby hbl
      have HBF := Lib.hid hbf
      have HOWN := Lib.hid (own_base_le (own_only hown hO (Nat.lt_succ_self _)) (base' := w.heap.size) (by omega))
      clear hb2 hv hown hp hO hbf
      generalize w2.setCell ⟨wc.heap.size, 0, none⟩ (.int .i64 0) = w6 at hvd hp2 HBF HOWN ⊢
      have hfp9 : fp ≤ 2251799813685248 := HFP.out
      have HWB := Lib.hid (fun W => wholeBytes_is fp W hfp9)
      obtain ⟨nb, hnb⟩ : ∃ nb, nb = (fp + 7) / 8 := ⟨_, rfl⟩
      rw [← hnb] at HWB
      have HNB := Lib.hid (fun _ : Unit => hnb)
      clear hnb
      go_wp2
      go_quiet ((go_at_call 38; exact quiet_left (HWB.out _)))
      go_wp2
      refine bodyPost_ret (v := .tuple #[.slice av nv cv, .int .i64 (nb : Int), .int .i64 0]) (by simp [results, Tryz.results15, go_sem]) rfl ⟨.slice av nv cv, by rw [HNB.out ()], HOWN.out, below_drewN HBF.out _, HBY.out, HBL.out⟩
    · have hr := HDEC.out ()
      rw [if_pos hc] at hr
      subst hr
      clear HDEC hres
      have HCA := Lib.hid (icaught_bad 35 #[.pointer (some ⟨R, 0, none⟩), .pointer (some ⟨w.heap.size, 0, none⟩), .pointer (some ⟨w.heap.size + 1, 0, none⟩)] wc c
        (fun w' => Below w.heap.size wc w') hf18 (HD1.out.mono (by
          intro e w' h
          rcases h with ⟨_, rfl, hf⟩ | ⟨h, _⟩
          · have hws := HWS.out
            have hb := hf.below (B := w.heap.size) (fun k hk => HKB.out k hk)
            refine ⟨rfl, (hf.block _ HKE.out).trans HE.out, ?_, (Below.mono (below1 wc _) (by omega)).trans hb⟩
            have hg := HGE.out
            have hgl := GlobE.lt hg
            have h1 := (HBW.out.trans ((Below.mono (below1 wc (.cells #[.int .i64 0] 24)) (by omega)).trans hb))
            exact hg.later h1
          · exact absurd h hc)))
      have d4 : (c != 0) = true := by rw [bne_iff_ne]; exact hc
      clear HD1 HKE HKB HGE4 HE hc
      go_wp2_with fail
      refine HCA.out.mono ?_
      clear HCA
      rintro e w5 ⟨rfl, w2, hb2, ho⟩
      have hws := HWS.out
      have hbf := HBW.out.trans (hb2.trans (ho.belowB' (B := w.heap.size) (by omega) (by have := hb2.size; omega)))
      have HBF := Lib.hid hbf
      clear hb2 ho hbf
      go_wp2
      refine bodyPost_ret (v := .tuple #[.slice none 0 0, .int .i64 0, .int .i64 c]) (by simp [results, Tryz.results15, go_sem]) rfl ⟨.slice none 0 0, rfl, ⟨rfl, Or.inl ⟨rfl, rfl⟩⟩, HBF.out, fun x hx => (nomatch hx), Nat.zero_le _⟩

theorem decode_any (b : Value) (bs : List Nat) (most : Int) (w : World) (hs : Sl w b bs) (h9 : bs.length ≤ 1000000) (hg : Glob w) (hge : GlobE w) :
    Calls Tryz.prog 15 #[b, .int .i64 most] w (DecPost w (If.decode (If.bb bs) most)) := by
  by_cases hm : most < 0 ∨ 65536 < most
  · exact decode_arg b _ most w hm
  · obtain ⟨m, rfl⟩ : ∃ m : Nat, most = (m : Int) := ⟨most.toNat, by omega⟩
    obtain ⟨a, len, cap, rfl, hlen⟩ := hs.shape
    have h8 : ∀ x ∈ bs, x < 256 := by obtain ⟨_, _, _, _, _, _, _, h, _⟩ := hs; exact h
    exact decode_in a len cap (If.bb bs) m (If.bb bs).length w (by rw [If.bb_pack bs h8]; exact hs) (by show _ = _; rw [If.bb_length, hlen]) rfl (by omega) (by omega) hg hge _ (fun _ => rfl)
end Go.Proofs.YtnjlljdbghcobaaGreatDoor

/- No code begins with another one; codes of one length rise: plain facts. Nothing of the program is named here. -/
namespace Go.Proofs.YtnjlljdbghcobaaGreatDoor
set_option maxRecDepth 100000
namespace Hf

/-- Codes of one length rise with their symbols. -/
theorem apart_same (ls : List Nat) (j k : Nat) (hj : j < (ordl ls).length) (hk : k < (ordl ls).length) (he : ln ls (sy ls j) = ln ls (sy ls k)) (hne : sy ls j ≠ sy ls k) : (cd ls j < cd ls k ↔ sy ls j < sy ls k) ∧ cd ls j ≠ cd ls k := by
  have e1 := cd_pf ls j hj
  have e2 := cd_pf ls k hk
  rw [he] at e1
  have hpos := Nat.two_pow_pos (15 - ln ls (sy ls k))
  generalize 2 ^ (15 - ln ls (sy ls k)) = q at e1 e2 hpos
  rcases Nat.lt_trichotomy j k with h | h | h
  · have h1 := pf_lt ls j k h
    have h2 := sy_lt ls j k h hk
    have h3 : cd ls j < cd ls k := Nat.lt_of_mul_lt_mul_right (a := q) (by omega)
    unfold Lt at h2
    exact ⟨⟨fun _ => by omega, fun _ => h3⟩, by omega⟩
  · exact absurd (by rw [h]) hne
  · have h1 := pf_lt ls k j h
    have h2 := sy_lt ls k j h hj
    have h3 : cd ls k < cd ls j := Nat.lt_of_mul_lt_mul_right (a := q) (by omega)
    unfold Lt at h2
    exact ⟨⟨fun _ => by omega, fun _ => by omega⟩, by omega⟩

/-- What a longer code begins with is above a shorter one. -/
theorem apart_long (ls : List Nat) (j k : Nat) (hj : j < (ordl ls).length) (hk : k < (ordl ls).length) (hlt : ln ls (sy ls j) < ln ls (sy ls k)) : cd ls j < cd ls k / 2 ^ (ln ls (sy ls k) - ln ls (sy ls j)) := by
  have h15 := (sy_mem ls k hk).2.2
  have hjk : j < k := by
    rcases Nat.lt_trichotomy j k with h | h | h
    · exact h
    · rw [h] at hlt; omega
    · have := sy_lt ls k j h hj; unfold Lt at this; omega
  have e1 := cd_pf ls j hj
  have e2 := cd_pf ls k hk
  have e3 := pf_mono ls (j + 1) k hjk
  have e4 : pf ls (j + 1) = pf ls j + 2 ^ (15 - ln ls (sy ls j)) := rfl
  have e5 : 2 ^ (ln ls (sy ls k) - ln ls (sy ls j)) * 2 ^ (15 - ln ls (sy ls k)) = 2 ^ (15 - ln ls (sy ls j)) := by
    rw [← Nat.pow_add, show ln ls (sy ls k) - ln ls (sy ls j) + (15 - ln ls (sy ls k)) = 15 - ln ls (sy ls j) by omega]
  have hpos := Nat.two_pow_pos (15 - ln ls (sy ls k))
  rw [Nat.lt_iff_add_one_le, Nat.le_div_iff_mul_le (Nat.two_pow_pos _)]
  refine Nat.le_of_mul_le_mul_right ?_ hpos
  rw [Nat.mul_assoc, e5, e2, Nat.succ_mul, e1]
  omega
end Hf
end Go.Proofs.YtnjlljdbghcobaaGreatDoor

/- What is read where a code stands: plain facts. Nothing of the program is named here. -/
namespace Go.Proofs.YtnjlljdbghcobaaGreatDoor
set_option maxRecDepth 100000
namespace Hf

theorem vb_split (l : List Bool) (p n d : Nat) : ∃ r, r < 2 ^ d ∧ vb l p (n + d) = vb l p n * 2 ^ d + r := by
  induction d with
  | zero => exact ⟨0, by simp, by simp⟩
  | succ d ih =>
    obtain ⟨r, hr, e⟩ := ih
    have hb : (l[p + (n + d)]?.getD false).toNat < 2 := Bool.toNat_lt _
    refine ⟨2 * r + (l[p + (n + d)]?.getD false).toNat, by rw [Nat.pow_succ]; omega, ?_⟩
    show 2 * vb l p (n + d) + (l[p + (n + d)]?.getD false).toNat = _
    rw [e, Nat.pow_succ]
    generalize vb l p n = v
    generalize 2 ^ d = q
    have h : v * (q * 2) = 2 * (v * q) := by rw [Nat.mul_comm q 2, ← Nat.mul_assoc, Nat.mul_comm v 2, Nat.mul_assoc]
    rw [h]
    omega

/-- The head of the bits read. -/
theorem vb_head (l : List Bool) (p n d : Nat) : vb l p (n + d) / 2 ^ d = vb l p n := by
  obtain ⟨r, hr, e⟩ := vb_split l p n d
  rw [e, Nat.mul_comm, Nat.mul_add_div (Nat.two_pow_pos d), Nat.div_eq_of_lt hr, Nat.add_zero]

theorem hit_beg {ls : List Nat} {l : List Bool} {p n k : Nat} (h : Hit ls l p n k) (m : Nat) (hm : m ≤ n) : Beg ls l p m k := by
  obtain ⟨h1, h2, h3⟩ := h
  refine ⟨h1, by omega, ?_⟩
  rw [h2, h3]
  have := vb_head l p m (n - m)
  rwa [show m + (n - m) = n by omega] at this

/-- Ahead of a code's end nothing else is hit. -/
theorem hit_only {ls : List Nat} {l : List Bool} {p n k m : Nat} (h : Hit ls l p n k) (hm : m < n) (k' : Nat) : ¬ Hit ls l p m k' := by
  intro h'
  obtain ⟨g1, g2, g3⟩ := h'
  have hb := hit_beg h m (by omega)
  obtain ⟨h1, h2, h3⟩ := h
  have := apart_long ls k' k g1 h1 (by omega)
  rw [g2, hb.2.2, g3] at this
  omega

/-- Where a code stands it is read. -/
theorem rd_hit {ls : List Nat} {l : List Bool} {p n k : Nat} (h : Hit ls l p n k) (hn : 0 < n) (hp : p + n ≤ l.length) : Rd ls l p 0 (sy ls k, p + n, 0) := by
  have h15 : n ≤ 15 := by have := (sy_mem ls k h.1).2.2; have := h.2.1; omega
  have key : ∀ d j, j + d + 1 = n → Rd ls l p j (sy ls k, p + n, 0) := by
    intro d
    induction d with
    | zero =>
      intro j hj
      have e : n = j + 1 := by omega
      subst e
      exact Rd.hit j k (by omega) (by omega) h
    | succ d ih =>
      intro j hj
      exact Rd.next j k _ (by omega) (by omega) (hit_only h (by omega)) (hit_beg h (j + 1) (by omega)) (ih (j + 1) (by omega))
  exact key (n - 1) 0 (by omega)

/-- Of lengths that take 1 some code stands wherever there are fifteen bits. -/
theorem whole_hit (ls : List Nat) (l : List Bool) (p : Nat) (hw : pf ls (ordl ls).length = 32768) : ∃ k, Hit ls l p (ln ls (sy ls k)) k := by
  have hv := vb_lt l p 15
  have key : ∀ m, m ≤ (ordl ls).length → vb l p 15 < pf ls m → ∃ k, k < m ∧ pf ls k ≤ vb l p 15 ∧ vb l p 15 < pf ls (k + 1) := by
    intro m
    induction m with
    | zero => intro _ h; simp [pf] at h
    | succ m ih =>
      intro hm h
      by_cases g : vb l p 15 < pf ls m
      · obtain ⟨k, h1, h2, h3⟩ := ih (by omega) g
        exact ⟨k, by omega, h2, h3⟩
      · exact ⟨m, by omega, by omega, h⟩
  obtain ⟨k, hk, h2, h3⟩ := key _ (Nat.le_refl _) (by rw [hw]; exact hv)
  refine ⟨k, hk, rfl, ?_⟩
  have hm := sy_mem ls k hk
  have e1 := cd_pf ls k hk
  have e2 : pf ls (k + 1) = pf ls k + 2 ^ (15 - ln ls (sy ls k)) := rfl
  have e3 := vb_head l p (ln ls (sy ls k)) (15 - ln ls (sy ls k))
  rw [show ln ls (sy ls k) + (15 - ln ls (sy ls k)) = 15 by omega] at e3
  rw [← e3]
  have hpos := Nat.two_pow_pos (15 - ln ls (sy ls k))
  generalize 2 ^ (15 - ln ls (sy ls k)) = q at e1 e2 hpos ⊢
  rw [← e1] at h2 e2
  rw [e2] at h3
  refine (Nat.div_eq_of_lt_le ?_ ?_).symm
  · exact h2
  · rw [Nat.succ_mul]; exact h3
end Hf
end Go.Proofs.YtnjlljdbghcobaaGreatDoor

/- The document's examples of streams by fixed codes, in plain numbers. -/
namespace Go.Proofs.YtnjlljdbghcobaaGreatDoor
set_option maxRecDepth 100000
namespace If
open Hd (num rd head)

theorem rd_at (l : List Bool) (p n k y : Nat) (h1 : k < (Hf.ordl fixL).length) (h2 : Hf.ln fixL (Hf.sy fixL k) = n) (h3 : Hf.cd fixL k = Hf.vb l p n) (h4 : Hf.sy fixL k = y) (hn : 0 < n) (hp : p + n ≤ l.length) : rd fixL l p = (y, p + n, 0) := by
  rw [← h4]
  exact Hd.rd_is (Hf.rd_hit ⟨h1, h2, h3⟩ hn hp)
theorem rd_a : rd fixL (bb [75, 4, 0]) 3 = (97, 11, 0) := rd_at _ 3 8 121 97 (by decide +kernel) (by decide +kernel) (by decide +kernel) (by decide +kernel) (by omega) (by decide +kernel)
theorem rd_e : rd fixL (bb [75, 4, 0]) 11 = (256, 18, 0) := rd_at _ 11 7 0 256 (by decide +kernel) (by decide +kernel) (by decide +kernel) (by decide +kernel) (by omega) (by decide +kernel)
theorem rd_z : rd fixL (bb [3, 0]) 3 = (256, 10, 0) := rd_at _ 3 7 0 256 (by decide +kernel) (by decide +kernel) (by decide +kernel) (by decide +kernel) (by omega) (by decide +kernel)

theorem ex_a : decode (bb [75, 4, 0]) 9 = ([97], 3, 0) := by
  have e : block (bb [75, 4, 0]) 9 0 [] = ([97], 18, 0) := by
    unfold block
    rw [if_neg (by rw [bb_length]; simp), if_neg (by decide +kernel), if_pos (by decide +kernel), bb_length]
    show syms _ _ _ 9 (23 + 1 + 1) [] 3 = _
    rw [syms_succ _ _ _ _ _ _ _ _ _ _ rd_a, if_neg (by simp), if_neg (by decide), if_neg (by decide), if_neg (by simp), syms_succ _ _ _ _ _ _ _ _ _ _ rd_e, if_neg (by simp), if_pos rfl]
    rfl
  have e2 : blocks (bb [75, 4, 0]) 9 ((bb [75, 4, 0]).length + 1) [] 0 = ([97], 18, 0) := by
    simp only [blocks]
    rw [e, if_neg (by simp), if_pos (by decide +kernel)]
  unfold decode
  rw [if_neg (by omega)]
  show (if (blocks _ 9 _ _ _).2.2 ≠ 0 then _ else _) = _
  rw [e2, if_neg (by simp)]
  show ((blocks _ 9 _ _ _).1, ((blocks _ 9 _ _ _).2.1 + 7) / 8, _) = _
  rw [e2]
  rfl
theorem ex_z : decode (bb [3, 0]) 0 = ([], 2, 0) := by
  have e : block (bb [3, 0]) 0 0 [] = ([], 10, 0) := by
    unfold block
    rw [if_neg (by rw [bb_length]; simp), if_neg (by decide +kernel), if_pos (by decide +kernel), bb_length]
    show syms _ _ _ 0 (16 + 1) [] 3 = _
    rw [syms_succ _ _ _ _ _ _ _ _ _ _ rd_z, if_neg (by simp), if_pos rfl]
  have e2 : blocks (bb [3, 0]) 0 ((bb [3, 0]).length + 1) [] 0 = ([], 10, 0) := by
    simp only [blocks]
    rw [e, if_neg (by simp), if_pos (by decide +kernel)]
  unfold decode
  rw [if_neg (by omega)]
  show (if (blocks _ 0 _ _ _).2.2 ≠ 0 then _ else _) = _
  rw [e2, if_neg (by simp)]
  show ((blocks _ 0 _ _ _).1, ((blocks _ 0 _ _ _).2.1 + 7) / 8, _) = _
  rw [e2]
  rfl
end If
end Go.Proofs.YtnjlljdbghcobaaGreatDoor

/- What the statements of layer 9 call themselves: abc, lives. -/
namespace Go.Proofs.YtnjlljdbghcobaaGreatDoor
set_option maxRecDepth 100000
open Go.RowKit


theorem string_of (w : World) (a : Option Addr) (len cap : Nat) (bs : List Nat) (S : ByteArray) (h : Sl w (.slice a len cap) bs) (hS : Hid (S = strB bs)) : (convert 22 9 (.slice a len cap)).run Tryz.prog w = .ok (.string S) w := by
  rw [hS.out]
  exact run_string w 22 9 5 Tryz.underlying22 Tryz.underlying5 Tryz.underlying9 a len cap bs h

/-- Bytes that were just laid, marked or not. -/
theorem new_sl (w : World) (cs : Array Value) (fr : Nat × Nat) (bs : List Nat) (n c : Nat) (h : cs = (vb bs).toArray) (h8 : ∀ x ∈ bs, x < 256) (hn : n = bs.length) (hle : n ≤ 281474976710656) :
    Sl (w.alloc (.cells cs 5 fr)) (.slice (some ⟨w.heap.size, 0, none⟩) n c) bs := by
  refine ⟨_, n, c, rfl, hn, hle, fun h => by simp at h, h8, fun h0 => ⟨w.heap.size, 0, rfl, by simp, fun i hi => ?_⟩⟩
  rw [Nat.zero_add, h]
  have hi' : i < bs.length := by omega
  have e : (w.alloc (.cells (vb bs).toArray 5 fr)).heap[w.heap.size]? = some (.cells (vb bs).toArray 5 fr) := by
    show (w.heap.push _)[_]? = _
    simp
  unfold World.cell?
  simp only [e]
  simp [vb_get, hi']

theorem abc_is (w : World) : Calls Tryz.prog 17 #[] w fun e w' => e = .returned (.slice (some ⟨w.heap.size, 0, none⟩) 8 8) ∧ Sl w' (.slice (some ⟨w.heap.size, 0, none⟩) 8 8) [1, 3, 0, 252, 255, 97, 98, 99] ∧ Below w.heap.size w w' := by
  have kc := fun (w : World) (C : Array Value) (n c : Nat) => Lib.run_convert_bytes_const (P := Tryz.prog) w 22 5 C n c Tryz.underlying22 Tryz.underlying5
  go_enter Tryz.func17, Tryz.ntmps17
  go_wp2
  go_ret
  exact ⟨rfl, new_sl w _ _ _ 8 8 rfl (by decide) rfl (by decide), below1 w _⟩

/-- Both package-level variables hold what the text lays. -/
def GG (w : World) : Prop := Glob w ∧ GlobE w
theorem GG.later {w w' : World} (h : GG w) (hb : Below w.heap.size w w') : GG w' := ⟨h.1.later hb, h.2.later hb⟩

/-- What Decode answers, of a slice of bytes. -/
theorem dec_is (b : Value) (bs : List Nat) (most : Int) (w : World) (hs : Sl w b bs) (h9 : bs.length ≤ 1000000) (hg : GG w) (out : List Nat) (n : Nat) (c : Int) (hd : If.decode (If.bb bs) most = (out, n, c)) :
    Calls Tryz.prog 15 #[b, .int .i64 most] w fun e w' => ∃ a cap, e = .returned (.tuple #[.slice a out.length cap, .int .i64 (n : Int), .int .i64 c]) ∧ Sl w' (.slice a out.length cap) out ∧ Below w.heap.size w w' ∧ (∀ x ∈ out, x < 256) ∧ out.length ≤ 65536 := by
  have h := decode_any b bs most w hs h9 hg.1 hg.2
  rw [hd] at h
  refine h.mono ?_
  rintro e w' ⟨v, rfl, ho, hb, hlt, hle⟩
  simp only at ho hlt hle
  obtain ⟨a, cap, rfl⟩ := own_shape ho
  exact ⟨a, cap, rfl, Sl.owned ho hlt (by omega), hb, hlt, hle⟩

set_option maxHeartbeats 8000000 in
theorem lives_any (w : World) (hg : GG w) : Calls Tryz.prog 14 #[] w fun e w' => e = .returned (.bool true) ∧ Below w.heap.size w w' := by
  have HG := Lib.hid hg
  have kc := fun (w : World) (C : Array Value) (n c : Nat) => Lib.run_convert_bytes_const (P := Tryz.prog) w 22 5 C n c Tryz.underlying22 Tryz.underlying5
  clear hg
  go_enter Tryz.func14, Tryz.ntmps14
  go_wp2_with fail
  refine (abc_is _).mono ?_
  rintro e w0 ⟨rfl, hs0, hb0⟩
  have HB0 := Lib.hid hb0
  have HD := Lib.hid (dec_is _ _ 3 w0 hs0 (by decide) (HG.out.later hb0) _ _ _ If.ex_abc)
  clear hb0 hs0
  go_wp2_with fail
  refine HD.out.mono ?_
  clear HD
  rintro e w1 ⟨a1, p1, rfl, hs1, hb1, _, _⟩
  have HB1 := Lib.hid (HB0.out.trans (hb1.mono HB0.out.size))
  have HS1 := Lib.hid hs1
  clear hs1 hb1 HB0
  have hba := below1 w1 (.cells #[.int .u8 75, .int .u8 4, .int .u8 0] 5)
  have HBA := Lib.hid (HB1.out.trans (hba.mono HB1.out.size))
  have HD := Lib.hid (dec_is _ _ 9 _ (new_sl w1 #[.int .u8 75, .int .u8 4, .int .u8 0] (0, 0) [75, 4, 0] 3 3 rfl (by decide) rfl (by decide)) (by decide) (HG.out.later HBA.out) _ _ _ If.ex_a)
  have HS1' := Lib.hid (HS1.out.later hba)
  clear HS1
  clear hba
  go_wp2_with fail
  refine HD.out.mono ?_
  clear HD
  rintro e w2 ⟨a2, p2, rfl, hs2, hb2, _, _⟩
  have HB2 := Lib.hid (HBA.out.trans (hb2.mono HBA.out.size))
  have HS1 := Lib.hid (HS1'.out.later hb2)
  clear HS1'
  have HS2 := Lib.hid hs2
  clear hs2 hb2 HBA HB1
  have hba := below1 w2 (.cells #[.int .u8 7] 5)
  have HBA := Lib.hid (HB2.out.trans (hba.mono HB2.out.size))
  have HD := Lib.hid (dec_is _ _ 9 _ (new_sl w2 #[.int .u8 7] (0, 0) [7] 1 1 rfl (by decide) rfl (by decide)) (by decide) (HG.out.later HBA.out) _ _ _ If.ex_code)
  have HS1' := Lib.hid (HS1.out.later hba)
  clear HS1
  have HS2' := Lib.hid (HS2.out.later hba)
  clear HS2
  clear hba
  go_wp2_with fail
  refine HD.out.mono ?_
  clear HD
  rintro e w3 ⟨a3, p3, rfl, hs3, hb3, _, _⟩
  have HB3 := Lib.hid (HBA.out.trans (hb3.mono HBA.out.size))
  have HS1 := Lib.hid (HS1'.out.later hb3)
  clear HS1'
  have HS2 := Lib.hid (HS2'.out.later hb3)
  clear HS2'
  have HS3 := Lib.hid hs3
  clear hs3 hb3 HBA HB2
  have hba := below1 w3 (.cells #[.int .u8 1, .int .u8 3, .int .u8 0, .int .u8 253, .int .u8 255, .int .u8 97, .int .u8 98, .int .u8 99] 5 (8, 9))
  have HBA := Lib.hid (HB3.out.trans (hba.mono HB3.out.size))
  have HD := Lib.hid (dec_is _ _ 9 _ (new_sl w3 #[.int .u8 1, .int .u8 3, .int .u8 0, .int .u8 253, .int .u8 255, .int .u8 97, .int .u8 98, .int .u8 99] (8, 9) [1, 3, 0, 253, 255, 97, 98, 99] 8 8 rfl (by decide) rfl (by decide)) (by decide) (HG.out.later HBA.out) _ _ _ If.ex_sum)
  have HS1' := Lib.hid (HS1.out.later hba)
  clear HS1
  have HS2' := Lib.hid (HS2.out.later hba)
  clear HS2
  clear hba
  go_wp2_with fail
  refine HD.out.mono ?_
  clear HD
  rintro e w4 ⟨a4, p4, rfl, hs4, hb4, _, _⟩
  have HB4 := Lib.hid (HBA.out.trans (hb4.mono HBA.out.size))
  have HS1 := Lib.hid (HS1'.out.later hb4)
  clear HS1'
  have HS2 := Lib.hid (HS2'.out.later hb4)
  clear HS2'
  have HS4 := Lib.hid hs4
  clear hs4 hb4 HBA HB3
  have hba := below1 w4 (.cells #[.int .u8 3, .int .u8 0] 5)
  have HBA := Lib.hid (HB4.out.trans (hba.mono HB4.out.size))
  have HD := Lib.hid (dec_is _ _ 0 _ (new_sl w4 #[.int .u8 3, .int .u8 0] (0, 0) [3, 0] 2 2 rfl (by decide) rfl (by decide)) (by decide) (HG.out.later HBA.out) _ _ _ If.ex_z)
  have HS1' := Lib.hid (HS1.out.later hba)
  clear HS1
  have HS2' := Lib.hid (HS2.out.later hba)
  clear HS2
  clear hba
  go_wp2_with fail
  refine HD.out.mono ?_
  clear HD
  rintro e w5 ⟨a5, p5, rfl, hs5, hb5, _, _⟩
  have HB5 := Lib.hid (HBA.out.trans (hb5.mono HBA.out.size))
  have HS1 := Lib.hid (HS1'.out.later hb5)
  clear HS1'
  have HS2 := Lib.hid (HS2'.out.later hb5)
  clear HS2'
  have HS5 := Lib.hid hs5
  clear hs5 hb5 HBA HB4
  have r1 := string_of w5 a1 3 p1 _ _ HS1.out (show Hid (({ data := #[97, 98, 99] } : ByteArray) = strB [97, 98, 99]) from rfl)
  have r2 := string_of w5 a2 1 p2 _ _ HS2.out (show Hid (({ data := #[97] } : ByteArray) = strB [97]) from rfl)
  go_wp2
  go_ret
  exact ⟨rfl, HB5.out⟩
end Go.Proofs.YtnjlljdbghcobaaGreatDoor

/- Streams and how much may be told: a greater most changes nothing; one too small is too little. -/
namespace Go.Proofs.YtnjlljdbghcobaaGreatDoor
set_option maxRecDepth 100000
namespace If
open Hd (num rd head)

/-- Told with another most: the same, where it is enough; else too much. -/
def Mo (m : Nat) (r r' : List Nat × Nat × Int) : Prop := (r.1.length ≤ m → r' = r) ∧ (m < r.1.length → r'.2.2 = 3)

theorem copy_most {l : List Bool} {dist : List Nat} {most s p : Nat} {out : List Nat} (m : Nat) (h : (copy l dist most s p out).2.2 = 0) : out.length < (copy l dist most s p out).1.length + 1 ∧ Mo m (copy l dist most s p out) (copy l dist m s p out) := by
  unfold copy at h ⊢
  by_cases h1 : 286 ≤ s
  · rw [if_pos h1] at h; simp at h
  rw [if_neg h1] at h ⊢
  rw [if_neg h1]
  by_cases h2 : l.length < p + Sy.at' Sy.lb (s - 257)
  · rw [if_pos h2] at h; simp at h
  rw [if_neg h2] at h ⊢
  rw [if_neg h2]
  by_cases h3 : ∀ x ∈ dist, x = 0
  · rw [if_pos h3] at h; simp at h
  rw [if_neg h3] at h ⊢
  rw [if_neg h3]
  generalize rd dist l (p + Sy.at' Sy.lb (s - 257)) = r at h ⊢
  obtain ⟨y, q, c⟩ := r
  simp only at h ⊢
  by_cases h4 : c ≠ 0
  · rw [if_pos h4] at h; exact absurd h h4
  rw [if_neg h4] at h ⊢
  rw [if_neg h4]
  by_cases h5 : 30 ≤ y
  · rw [if_pos h5] at h; simp at h
  rw [if_neg h5] at h ⊢
  rw [if_neg h5]
  by_cases h6 : l.length < q + Sy.at' Sy.db y
  · rw [if_pos h6] at h; simp at h
  rw [if_neg h6] at h ⊢
  rw [if_neg h6]
  by_cases h7 : out.length < Sy.at' Sy.df y + num l q (Sy.at' Sy.db y)
  · rw [if_pos h7] at h; simp at h
  rw [if_neg h7] at h ⊢
  rw [if_neg h7]
  generalize Sy.at' Sy.lf (s - 257) + num l p (Sy.at' Sy.lb (s - 257)) = n at h ⊢
  by_cases h8 : most < out.length + n
  · rw [if_pos h8] at h; simp at h
  rw [if_neg h8]
  have hl := cp_length (Sy.at' Sy.df y + num l q (Sy.at' Sy.db y)) n out
  refine ⟨by simp only; omega, fun hm => ?_, fun hm => ?_⟩
  · simp only at hm
    rw [if_neg (by omega)]
  · simp only at hm
    rw [if_pos (by omega)]

theorem syms_len {l : List Bool} {lit dist : List Nat} {most : Nat} : ∀ (k : Nat) (out : List Nat) (p : Nat), (syms l lit dist most k out p).2.2 = 0 → out.length ≤ (syms l lit dist most k out p).1.length := by
  intro k
  induction k with
  | zero => intro out p _; exact Nat.le_refl _
  | succ k ih =>
    intro out p h
    simp only [syms] at h ⊢
    generalize rd lit l p = r at h ⊢
    obtain ⟨y, q, c⟩ := r
    simp only at h ⊢
    by_cases h1 : c ≠ 0
    · rw [if_pos h1] at h; exact absurd h h1
    rw [if_neg h1] at h ⊢
    by_cases h2 : y = 256
    · rw [if_pos h2]; exact Nat.le_refl _
    rw [if_neg h2] at h ⊢
    by_cases h3 : 256 < y
    · rw [if_pos h3] at h ⊢
      by_cases h4 : (copy l dist most y q out).2.2 ≠ 0
      · rw [if_pos h4] at h; exact absurd h h4
      rw [if_neg h4] at h ⊢
      have := (copy_most 0 (by simpa using h4 : (copy l dist most y q out).2.2 = 0)).1
      have := ih _ _ h
      omega
    rw [if_neg h3] at h ⊢
    by_cases h5 : most ≤ out.length
    · rw [if_pos h5] at h; simp at h
    rw [if_neg h5] at h ⊢
    have := ih _ _ h
    rw [List.length_append] at this
    omega

theorem syms_most {l : List Bool} {lit dist : List Nat} {most : Nat} (m : Nat) : ∀ (k : Nat) (out : List Nat) (p : Nat), out.length ≤ m → (syms l lit dist most k out p).2.2 = 0 → Mo m (syms l lit dist most k out p) (syms l lit dist m k out p) := by
  intro k
  induction k with
  | zero => intro out p ho _; exact ⟨fun _ => rfl, fun h => by simp only [syms] at h; omega⟩
  | succ k ih =>
    intro out p ho h
    simp only [syms] at h ⊢
    generalize rd lit l p = r at h ⊢
    obtain ⟨y, q, c⟩ := r
    simp only at h ⊢
    by_cases h1 : c ≠ 0
    · rw [if_pos h1] at h; exact absurd h h1
    rw [if_neg h1] at h ⊢
    rw [if_neg h1]
    by_cases h2 : y = 256
    · rw [if_pos h2, if_pos h2]; exact ⟨fun _ => rfl, fun h => by simp only at h; omega⟩
    rw [if_neg h2] at h ⊢
    rw [if_neg h2]
    by_cases h3 : 256 < y
    · rw [if_pos h3] at h ⊢
      rw [if_pos h3]
      by_cases h4 : (copy l dist most y q out).2.2 ≠ 0
      · rw [if_pos h4] at h; exact absurd h h4
      rw [if_neg h4] at h ⊢
      have hc := copy_most m (by simpa using h4 : (copy l dist most y q out).2.2 = 0)
      have hlen := syms_len k _ _ h
      by_cases g : (copy l dist most y q out).1.length ≤ m
      · rw [hc.2.1 g, if_neg h4]
        exact ih _ _ g h
      · have h33 := hc.2.2 (by omega)
        rw [if_pos (show (copy l dist m y q out).2.2 ≠ 0 by rw [h33]; decide)]
        exact ⟨fun h => by omega, fun _ => h33⟩
    rw [if_neg h3] at h ⊢
    rw [if_neg h3]
    by_cases h5 : most ≤ out.length
    · rw [if_pos h5] at h; simp at h
    rw [if_neg h5] at h ⊢
    have hlen := syms_len k _ _ h
    rw [List.length_append] at hlen
    by_cases g : m ≤ out.length
    · rw [if_pos g]; exact ⟨fun h => by simp at hlen; omega, fun _ => rfl⟩
    rw [if_neg g]
    exact ih _ _ (by rw [List.length_append]; simp; omega) h

theorem stored_most {l : List Bool} {most p : Nat} {out : List Nat} (m : Nat) (h : (stored l most p out).2.2 = 0) : out.length ≤ (stored l most p out).1.length ∧ Mo m (stored l most p out) (stored l m p out) := by
  unfold stored at h ⊢
  by_cases h1 : l.length < up p + 32
  · rw [if_pos h1] at h; simp at h
  rw [if_neg h1] at h ⊢
  rw [if_neg h1]
  by_cases h2 : num l (up p) 16 + num l (up p + 16) 16 ≠ 65535 ∨ num l (up p) 16 &&& num l (up p + 16) 16 ≠ 0
  · rw [if_pos h2] at h; simp at h
  rw [if_neg h2] at h ⊢
  rw [if_neg h2]
  by_cases h3 : most < out.length + num l (up p) 16
  · rw [if_pos h3] at h; simp at h
  rw [if_neg h3] at h ⊢
  by_cases h4 : l.length < up p + 32 + 8 * num l (up p) 16
  · rw [if_pos h4] at h; simp at h
  rw [if_neg h4]
  refine ⟨by simp, fun hm => ?_, fun hm => ?_⟩
  · simp only [List.length_append, List.length_map, List.length_range] at hm
    rw [if_neg (by omega)]
  · simp only [List.length_append, List.length_map, List.length_range] at hm
    rw [if_pos (by omega)]

theorem dynamic_most {l : List Bool} {most p : Nat} {out : List Nat} (m : Nat) (h : (dynamic l most p out).2.2 = 0) : out.length ≤ (dynamic l most p out).1.length ∧ (out.length ≤ m → Mo m (dynamic l most p out) (dynamic l m p out)) := by
  unfold dynamic at h ⊢
  by_cases h1 : (head l p).2.2.2 ≠ 0
  · rw [if_pos h1] at h; exact absurd h h1
  rw [if_neg h1] at h ⊢
  rw [if_neg h1]
  by_cases h2 : (head l p).1[256]?.getD 0 = 0
  · rw [if_pos h2] at h; simp at h
  rw [if_neg h2] at h ⊢
  rw [if_neg h2]
  by_cases h3 : newE (Hd.zz (head l p).1) ≠ 0
  · rw [if_pos h3] at h; exact absurd h h3
  rw [if_neg h3] at h ⊢
  rw [if_neg h3]
  by_cases h4 : newE (Hd.zz (head l p).2.1) ≠ 0 ∧ ¬ (∀ x ∈ (head l p).2.1, x = 0)
  · rw [if_pos h4] at h; exact absurd h h4.1
  rw [if_neg h4] at h ⊢
  rw [if_neg h4]
  exact ⟨syms_len _ _ _ h, fun ho => syms_most m _ _ _ ho h⟩

theorem block_most {l : List Bool} {most p : Nat} {out : List Nat} (m : Nat) (h : (block l most p out).2.2 = 0) : out.length ≤ (block l most p out).1.length ∧ (out.length ≤ m → Mo m (block l most p out) (block l m p out)) := by
  unfold block at h ⊢
  by_cases h1 : l.length < p + 3
  · rw [if_pos h1] at h; simp at h
  rw [if_neg h1] at h ⊢
  rw [if_neg h1]
  by_cases h2 : num l (p + 1) 2 = 0
  · rw [if_pos h2] at h ⊢; rw [if_pos h2]; exact ⟨(stored_most m h).1, fun _ => (stored_most m h).2⟩
  rw [if_neg h2] at h ⊢
  rw [if_neg h2]
  by_cases h3 : num l (p + 1) 2 = 1
  · rw [if_pos h3] at h ⊢; rw [if_pos h3]; exact ⟨syms_len _ _ _ h, fun ho => syms_most m _ _ _ ho h⟩
  rw [if_neg h3] at h ⊢
  rw [if_neg h3]
  by_cases h4 : num l (p + 1) 2 = 2
  · rw [if_pos h4] at h ⊢; rw [if_pos h4]; exact dynamic_most m h
  rw [if_neg h4] at h; simp at h

theorem blocks_len {l : List Bool} {most : Nat} : ∀ (k : Nat) (out : List Nat) (p : Nat), (blocks l most k out p).2.2 = 0 → out.length ≤ (blocks l most k out p).1.length := by
  intro k
  induction k with
  | zero => intro out p _; exact Nat.le_refl _
  | succ k ih =>
    intro out p h
    simp only [blocks] at h ⊢
    by_cases h1 : (block l most p out).2.2 ≠ 0
    · rw [if_pos h1] at h; exact absurd h h1
    rw [if_neg h1] at h ⊢
    have hb := (block_most 0 (by simpa using h1 : (block l most p out).2.2 = 0)).1
    by_cases h2 : num l p 1 = 1
    · rw [if_pos h2]; exact hb
    rw [if_neg h2] at h ⊢
    have := ih _ _ h
    omega

theorem blocks_most {l : List Bool} {most : Nat} (m : Nat) : ∀ (k : Nat) (out : List Nat) (p : Nat), out.length ≤ m → (blocks l most k out p).2.2 = 0 → Mo m (blocks l most k out p) (blocks l m k out p) := by
  intro k
  induction k with
  | zero => intro out p ho _; exact ⟨fun _ => rfl, fun h => by simp only [blocks] at h; omega⟩
  | succ k ih =>
    intro out p ho h
    have hbl := blocks_len (k + 1) out p h
    simp only [blocks] at h hbl ⊢
    by_cases h1 : (block l most p out).2.2 ≠ 0
    · rw [if_pos h1] at h; exact absurd h h1
    rw [if_neg h1] at h hbl ⊢
    have h1' : (block l most p out).2.2 = 0 := by simpa using h1
    have hb := (block_most m h1').2 ho
    by_cases g : (block l most p out).1.length ≤ m
    · rw [hb.1 g, if_neg h1]
      by_cases h2 : num l p 1 = 1
      · rw [if_pos h2, if_pos h2]; exact ⟨fun _ => rfl, fun h => by simp only at h; omega⟩
      rw [if_neg h2] at h ⊢
      rw [if_neg h2]
      exact ih _ _ g h
    · have h33 := hb.2 (by omega)
      rw [if_pos (show (block l m p out).2.2 ≠ 0 by rw [h33]; decide)]
      refine ⟨fun hq => ?_, fun _ => h33⟩
      exfalso
      by_cases h2 : num l p 1 = 1
      · rw [if_pos h2] at hq; exact g hq
      · rw [if_neg h2] at h hq
        have := blocks_len k _ _ h
        omega

/-- With another most the same is told, where there is room; else it is too much. -/
theorem decode_most {l : List Bool} {most : Int} (m : Int) (h0 : 0 ≤ m) (h9 : m ≤ 65536) (h : (decode l most).2.2 = 0) :
    (((decode l most).1.length : Int) ≤ m → decode l m = decode l most) ∧ (m < ((decode l most).1.length : Int) → decode l m = ([], 0, 3)) := by
  unfold decode at h ⊢
  by_cases h1 : most < 0 ∨ 65536 < most
  · rw [if_pos h1] at h; simp at h
  rw [if_neg h1] at h ⊢
  rw [if_neg (by omega : ¬ (m < 0 ∨ 65536 < m))]
  by_cases h2 : (blocks l most.toNat (l.length + 1) [] 0).2.2 ≠ 0
  · rw [if_pos h2] at h; exact absurd h h2
  rw [if_neg h2]
  have hc := blocks_most m.toNat (l.length + 1) [] 0 (Nat.zero_le _) (by simpa using h2 : (blocks l most.toNat (l.length + 1) [] 0).2.2 = 0)
  simp only
  constructor
  · intro hq
    rw [hc.1 (by omega), if_neg h2]
  · intro hq
    have := hc.2 (by omega)
    rw [this, if_pos (by decide)]
end If
end Go.Proofs.YtnjlljdbghcobaaGreatDoor
