import Derived.Test.YtckbhciehmokdaaGreatDoorCarg
import Derived.Test.YtckbhciehmokdaaGreatDoorDrng
import Derived.Test.YtckbhciehmokdaaGreatDoorCcap
import Derived.Test.YtckbhciehmokdaaGreatDoorHrread
import Derived.Test.YtckbhciehmokdaaGreatDoorItake
import Derived.Test.YtckbhciehmokdaaGreatDoorDtal
import Derived.Test.YtckbhciehmokdaaGreatDoorHrget
import Derived.BigRegion
import Derived.WideKeyPair
import Derived.Maps.Keyed
import Derived.Lib.AppendZeros
namespace Go.Proofs.YtckbhciehmokdaaGreatDoor
set_option maxRecDepth 100000
set_option maxHeartbeats 8000000
open Go.RowKit Go.Maps Go.WideMaps
open Mt
def k3 (bs : List Nat) (i : Nat) : Value := .agg #[.int .u8 ((by' bs i : Nat) : Int), .int .u8 ((by' bs (i + 1) : Nat) : Int), .int .u8 ((by' bs (i + 2) : Nat) : Int)]
def Bt (w : World) (b off : Nat) (bs : List Nat) : Prop := b < w.heap.size /\ ∀ j, j < bs.length -> w.cell? ⟨b, off + j, none⟩ = some (.int .u8 ((by' bs j : Nat) : Int))
theorem Bt.later {w w' : World} {b off : Nat} {bs : List Nat} (h : Bt w b off bs) (hb : Below w.heap.size w w') : Bt w' b off bs := ⟨Nat.lt_of_lt_of_le h.1 hb.size, fun j hj => (hb.cell (p := ⟨b, off + j, none⟩) h.1).trans (h.2 j hj)⟩
theorem cells3 {w : World} {g : Nat} {x y z : Value} {t : TypeId} (h : Has w g (.cells #[x, y, z] t (0, 0))) : w.cell? ⟨g, 0, none⟩ = some x /\ w.cell? ⟨g, 1, none⟩ = some y /\ w.cell? ⟨g, 2, none⟩ = some z := by
 have h' : w.heap[g]? = some (.cells #[x, y, z] t (0, 0)) := h
 refine ⟨?_, ?_, ?_⟩ <;> simp [World.cell?, h']
theorem threeAt_ok (b off cap n i : Nat) (bs : List Nat) (w : World) (h : Bt w b off bs) (hn : n = bs.length) (hi : i + 2 < n) (h9 : n <= 100000) :
  Calls Tryz.prog 129 #[.slice (some ⟨b, off, none⟩) n cap, .int .i64 (i : Int)] w fun e w' => e = .returned (k3 bs i) /\ Below w.heap.size w w' := by
 have hb1 := below1 w (.cells #[.int .u8 0, .int .u8 0, .int .u8 0] 178)
 have h1 := h.later hb1
 have c0 := h1.2 i (by omega)
 have c1 := h1.2 (i + 1) (by omega)
 have c2 := h1.2 (i + 2) (by omega)
 have w1 : IntKind.i64.wrap ((i : Int) + 1) = ((i + 1 : Nat) : Int) := by rw [IntWalk.i64_in _ (by omega)]; omega
 have w2 : IntKind.i64.wrap ((i : Int) + 2) = ((i + 2 : Nat) : Int) := by rw [IntWalk.i64_in _ (by omega)]; omega
 have b0 : (i : Int) < (n : Int) := by omega
 have b1 : ((i + 1 : Nat) : Int) < (n : Int) := by omega
 have b2 : ((i + 2 : Nat) : Int) < (n : Int) := by omega
 have HB2 := LH (below1 w (.cells #[.int .u8 ((by' bs i : Nat) : Int), .int .u8 ((by' bs (i + 1) : Nat) : Int), .int .u8 ((by' bs (i + 2) : Nat) : Int)] 178))
 clear hb1 h1 h hn hi h9
 go_enter Tryz.func129, Tryz.ntmps129
 go_wp2_with fail
 go_region
 go_wp2
 obtain ⟨u0, u1, u2⟩ := cells3 (Has.new w (.cells #[.int .u8 ((by' bs i : Nat) : Int), .int .u8 ((by' bs (i + 1) : Nat) : Int), .int .u8 ((by' bs (i + 2) : Nat) : Int)] 178))
 refine bodyPost_ret (v := k3 bs i) ?_ rfl ⟨rfl, HB2.out.drew⟩
 simp [results, Tryz.results129, go_sem, k3, u0, u1, u2]
theorem three_arr : ArrKey Tryz.prog 178 5 3 := ⟨Tryz.underlying178, by kernel_rfl, by kernel_rfl, by kernel_rfl⟩
theorem keyOf_three {P : Program} {k e : TypeId} {q : IntKind} (A : ArrKey P k e 3) (he : P.underlying e = some (.int q)) (hsz : ∃ m, P.types.size = m + 1) {a b c : Int} (wa : (Lit.int q a).wf = true) (wb : (Lit.int q b).wf = true) (wc : (Lit.int q c).wf = true) :
  keyOf P k (.agg #[.int q a, .int q b, .int q c]) = some (.string (keyBytes [.int q a, .int q b, .int q c])) := by
 have hkt := A.keyType hsz
 obtain ⟨m, hm⟩ := hsz
 unfold keyOf
 simp only [A.hu]
 rw [if_pos (by simp [hkt, Value.formed, A.hu, A.size]), hm]
 unfold Program.keyLits
 simp only [A.hu, Value.cells]
 rw [if_pos (by rw [A.size]; rfl), show List.range 3 = [0, 1, 2] from rfl, List.mapM_cons, List.mapM_cons, List.mapM_cons, List.mapM_nil]
 simp [A.one, Program.keyLits, he, wa, wb, wc]
theorem k3_key (bs : List Nat) (h8 : ∀ x ∈ bs, x < 256) (i : Nat) : ∃ l, keyOf Tryz.prog 178 (k3 bs i) = some l := by
 have hw : ∀ j, (Lit.int .u8 ((by' bs j : Nat) : Int)).wf = true := fun j => by
  have h : by' bs j < 256 := by
   unfold by'
   cases e : bs[j]? with
   | none => simp
   | some x => exact h8 x (List.mem_of_getElem? e)
  exact WalkArith.wf_u8 (by omega)
 exact ⟨_, keyOf_three three_arr Tryz.underlying5 ⟨_, rfl⟩ (hw i) (hw (i + 1)) (hw (i + 2))⟩
theorem three_keyed : Keyed Tryz.prog 178 := Keyed.of_law three_arr.law
theorem latest_ok (R B n i : Nat) (A : Value) (f : Value -> Option Value) (bs : List Nat) (w : World) (h8 : ∀ x ∈ bs, x < 256) (hx : Has w R (.cells #[.map (some B), A] 125 (0, 0))) (hm : Ap Tryz.prog 178 w B n f) (r : Int) (hr : f (k3 bs i) = none /\ r = -1 ∨ f (k3 bs i) = some (.int .i64 r)) :
  Calls Tryz.prog 128 #[.pointer (some ⟨R, 0, none⟩), k3 bs i] w fun e w' => e = .returned (.int .i64 r) /\ Below w.heap.size w w' := by
 have hb1 := below1 w (.cells #[.int .u8 ((by' bs i : Nat) : Int), .int .u8 ((by' bs (i + 1) : Nat) : Int), .int .u8 ((by' bs (i + 2) : Nat) : Int)] 178)
 have HB := LH hb1
 obtain ⟨c0, -, -, -⟩ := (hx.later hb1).two
 obtain ⟨u0, u1, u2⟩ := cells3 (Has.new w (.cells #[.int .u8 ((by' bs i : Nat) : Int), .int .u8 ((by' bs (i + 1) : Nat) : Int), .int .u8 ((by' bs (i + 2) : Nat) : Int)] 178))
 obtain ⟨kl, hk⟩ := k3_key bs h8 i
 have hm1 : Ap Tryz.prog 178 (w.alloc (.cells #[.int .u8 ((by' bs i : Nat) : Int), .int .u8 ((by' bs (i + 1) : Nat) : Int), .int .u8 ((by' bs (i + 2) : Nat) : Int)] 178)).drew B n f := (hm.later hb1).same rfl
 rcases hr with ⟨hf, rfl⟩ | hf
 ·have L0 := hm1.look_none three_keyed (t := 123) Tryz.underlying123 (z := .int .i64 0) rfl true (k3 bs i) hk hf
  have L : (Instr.lookup 123 (.map (some B)) (k3 bs i) true).run Tryz.prog (w.alloc (.cells #[.int .u8 ((by' bs i : Nat) : Int), .int .u8 ((by' bs (i + 1) : Nat) : Int), .int .u8 ((by' bs (i + 2) : Nat) : Int)] 178)).drew = .ok (.tuple #[.int .i64 0, .bool false]) _ := L0
  unfold k3 at L ⊢
  clear hm1 hm hf L0 hb1 hx hk h8
  go_enter Tryz.func128, Tryz.ntmps128
  go_wp2_with fail
  go_region
  go_wp2
  exact bodyPost_ret (v := .int .i64 (-1)) (by simp [results, Tryz.results128, go_sem]) rfl ⟨rfl, HB.out.drew⟩
 ·have L0 := hm1.look_some three_keyed (t := 123) Tryz.underlying123 true (k3 bs i) hk hf
  have L : (Instr.lookup 123 (.map (some B)) (k3 bs i) true).run Tryz.prog (w.alloc (.cells #[.int .u8 ((by' bs i : Nat) : Int), .int .u8 ((by' bs (i + 1) : Nat) : Int), .int .u8 ((by' bs (i + 2) : Nat) : Int)] 178)).drew = .ok (.tuple #[.int .i64 r, .bool true]) _ := L0
  unfold k3 at L ⊢
  clear hm1 hm hf L0 hb1 hx hk h8
  go_enter Tryz.func128, Tryz.ntmps128
  go_wp2_with fail
  go_region
  go_wp2
  exact bodyPost_ret (v := .int .i64 r) (by simp [results, Tryz.results128, go_sem]) rfl ⟨rfl, HB.out.drew⟩
end Go.Proofs.YtckbhciehmokdaaGreatDoor
namespace Go.Proofs.YtckbhciehmokdaaGreatDoor
set_option maxRecDepth 100000
set_option maxHeartbeats 8000000
open Go.RowKit Mt
theorem alk_step (bs : List Nat) (p q W k : Nat) (h : k < W) (e : by' bs (p + k) = by' bs (q + k)) : alk bs p q (W - k) k = alk bs p q (W - (k + 1)) (k + 1) + 1 := by
 obtain ⟨d, rfl⟩ : ∃ d, W = k + 1 + d := ⟨W - (k + 1), by omega⟩
 rw [show k + 1 + d - k = d + 1 by omega, show k + 1 + d - (k + 1) = d by omega]
 simp only [alk]
 rw [if_pos e]
theorem alk_stop (bs : List Nat) (p q W k : Nat) (h : k < W) (e : ¬ by' bs (p + k) = by' bs (q + k)) : alk bs p q (W - k) k = 0 := by
 obtain ⟨d, rfl⟩ : ∃ d, W = k + 1 + d := ⟨W - (k + 1), by omega⟩
 rw [show k + 1 + d - k = d + 1 by omega]
 simp only [alk]
 rw [if_neg e]
theorem alike_ok (b o1 c1 n1 o2 c2 W p q : Nat) (bs : List Nat) (w : World) (h1 : ∀ j, j < W -> w.cell? ⟨b, o1 + j, none⟩ = some (.int .u8 ((by' bs (p + j) : Nat) : Int))) (h2 : ∀ j, j < W -> w.cell? ⟨b, o2 + j, none⟩ = some (.int .u8 ((by' bs (q + j) : Nat) : Int))) (hW : W <= n1) (h9 : n1 <= 100000) :
  Calls Tryz.prog 130 #[.slice (some ⟨b, o1, none⟩) n1 c1, .slice (some ⟨b, o2, none⟩) W c2] w fun e w' => e = .returned (.int .i64 ((alk bs p q W 0 : Nat) : Int)) /\ w = w' := by
 have H1 := LH h1
 have H2 := LH h2
 obtain ⟨r, hr⟩ : ∃ r, r = alk bs p q W 0 := ⟨_, rfl⟩
 rw [<- hr]
 have HR := LH hr
 clear h1 h2 hr
 go_enter Tryz.func130, Tryz.ntmps130
 go_wp2
 go_loop [9] (fun s => ∃ k : Nat, k <= W /\ s = .int .i64 k /\ Hid (r = k + alk bs p q (W - k) k)) (fun s => W - (intOf s).toNat)
 case atStart => exact ⟨0, Nat.zero_le _, rfl, LH (by rw [HR.out, Nat.zero_add]; rfl)⟩
 case round =>
  obtain ⟨k, hk, rfl, hkr⟩ := hrel
  by_cases hlt : k < W
  ·have c1 := H1.out k hlt
   have c2 := H2.out k hlt
   by_cases he : by' bs (p + k) = by' bs (q + k)
   ·have hs := alk_step bs p q W k hlt he
    have HN : Hid (r = k + 1 + alk bs p q (W - (k + 1)) (k + 1)) := LH (by have := hkr.out; omega)
    rw [he] at c1
    obtain ⟨x, hx⟩ : ∃ x, x = by' bs (q + k) := ⟨_, rfl⟩
    rw [<- hx] at c1 c2
    have b1 : (k : Int) < (n1 : Int) := by omega
    have b2 : (k : Int) < (W : Int) := by omega
    clear he hx hs hkr
    go_wp2
    go_round
    case rel => exact ⟨k + 1, by omega, by go_num, HN⟩
    case measure => simp [intOf]; omega
   ·have hs := alk_stop bs p q W k hlt he
    obtain rfl : r = k := by have := hkr.out; omega
    obtain ⟨x, hx⟩ : ∃ x, x = by' bs (q + r) := ⟨_, rfl⟩
    obtain ⟨y, hy⟩ : ∃ y, y = by' bs (p + r) := ⟨_, rfl⟩
    rw [<- hx] at c2 he
    rw [<- hy] at c1 he
    have b1 : (r : Int) < (n1 : Int) := by omega
    have b2 : (r : Int) < (W : Int) := by omega
    have e1 : ¬ ((y : Int) = (x : Int)) := by omega
    clear hx hy hs hkr HR
    go_wp2
    go_ret
    exact ⟨rfl, rfl⟩
  ·obtain rfl : k = W := by omega
   obtain rfl : r = k := by have := hkr.out; rw [Nat.sub_self] at this; simpa [alk] using this
   go_wp2
   go_ret
   exact ⟨rfl, rfl⟩
end Go.Proofs.YtckbhciehmokdaaGreatDoor
namespace Go.Proofs.YtckbhciehmokdaaGreatDoor
set_option maxRecDepth 100000
set_option maxHeartbeats 8000000
open Go.RowKit
def tops (v n j : Nat) : List Bool := (List.range j).map fun i => v.testBit (n - 1 - i)
theorem tops_all (v n : Nat) : tops v n n = Bs.bitsOf (turned v n) n := by
 unfold tops Bs.bitsOf
 refine List.map_congr_left fun i hi => ?_
 have hi' : i < n := List.mem_range.1 hi
 unfold turned
 rw [Bs.testBit_num, List.getElem?_reverse (by rw [Bs.bitsOf_length]; exact hi'), Bs.bitsOf_length, Bs.bitsOf_get]
 simp; omega
end Go.Proofs.YtckbhciehmokdaaGreatDoor
namespace Go.Proofs.YtckbhciehmokdaaGreatDoor
set_option maxRecDepth 100000
set_option maxHeartbeats 8000000
open Go.RowKit
theorem cw_len (ls : List Nat) (x : Nat) : (cw ls x).length = Hf.ln ls x := by unfold cw; exact Bs.bitsOf_length _ _
theorem testBit_two (v d : Nat) : 2 * (v / 2 ^ (d + 1)) + (v.testBit d).toNat = v / 2 ^ d := by
 rw [Nat.testBit_eq_decide_div_mod_eq, Nat.pow_succ, <- Nat.div_div_eq_div_mul]
 generalize v / 2 ^ d = q
 by_cases h : q % 2 = 1
 ·rw [decide_eq_true h]; show 2 * (q / 2) + 1 = q; omega
 ·rw [decide_eq_false h]; show 2 * (q / 2) + 0 = q; omega
theorem vb_code (l : List Bool) (p n v : Nat) (hv : v < 2 ^ n) (h : ∀ i, i < n -> l[p + i]?.getD false = v.testBit (n - 1 - i)) : Hf.vb l p n = v := by
 have key : ∀ m, m <= n -> Hf.vb l p m = v / 2 ^ (n - m) := by
  intro m
  induction m with
  | zero => intro _; rw [Nat.sub_zero, Nat.div_eq_of_lt hv]; rfl
  | succ m ih =>
   intro hm
   show 2 * Hf.vb l p m + (l[p + m]?.getD false).toNat = _
   rw [ih (by omega), h m (by omega), show n - m = (n - 1 - m) + 1 by omega, testBit_two, show n - (m + 1) = n - 1 - m by omega]
 rw [key n (Nat.le_refl _)]
 simp
theorem cw_get (ls : List Nat) (x i : Nat) (hi : i < Hf.ln ls x) : (cw ls x)[i]?.getD false = ((Hf.codes ls)[x]?.getD 0).testBit (Hf.ln ls x - 1 - i) := by
 unfold cw
 rw [<- tops_all]
 unfold tops
 simp [hi]
theorem code_hit {zs : List Int} (hf : Fit zs) (l pre post : List Bool) (x : Nat) (h1 : x < zs.length) (h2 : zs[x]?.getD 0 ≠ 0) (hl : l = pre ++ (cw (nat zs) x ++ post)) :
  ∃ kk, Hf.sy (nat zs) kk = x /\ Hf.Hit (nat zs) l pre.length (Hf.ln (nat zs) x) kk /\ 0 < Hf.ln (nat zs) x /\ pre.length + Hf.ln (nat zs) x <= l.length := by
 have hc := code_fits hf x h1 h2
 have hg := cw_get (nat zs) x
 have hlen := cw_len (nat zs) x
 obtain ⟨kk, hkk, e⟩ := Hf.sy_of (nat zs) x (by rw [nat_length]; exact h1) hc.2.2 hc.2.1
 have hcd := Hf.codes_get (nat zs) kk hkk
 rw [e] at hcd
 refine ⟨kk, e, ⟨hkk, by rw [e], ?_⟩, hc.2.2, ?_⟩
 ·have h3 := hc.1
  rw [hcd] at h3 hg
  refine (vb_code l _ _ _ h3 fun i hi => ?_).symm
  rw [hl, List.getElem?_append_right (Nat.le_add_right _ _), Nat.add_sub_cancel_left, List.getElem?_append_left (by rw [hlen]; exact hi)]
  exact hg i hi
 ·rw [hl, List.length_append, List.length_append, hlen]
  omega
theorem own_stays {w w' : World} {base : Nat} {e : TypeId} {size : Nat} {v : Value} {n : Nat} {xs : List Value} (h : w.ownsRow base e size v n xs) (hb : Below w.heap.size w w') : w'.ownsRow base e size v n xs := by
 obtain ⟨h1, h2⟩ := h
 refine ⟨h1, ?_⟩
 rcases h2 with h | ⟨g, c, cur, h, hbg, hg, r⟩
 ·exact Or.inl h
 ·exact Or.inr ⟨g, c, cur, h, hbg, (hb.block g (lt_of_block hg)).trans hg, r⟩
theorem own_slice {w : World} {base : Nat} {e : TypeId} {size : Nat} {v : Value} {n : Nat} {xs : List Value} (h : w.ownsRow base e size v n xs) : ∃ a cap, v = .slice a n cap := by
 rcases h.2 with ⟨rfl, rfl⟩ | ⟨g, cap, cur, rfl, _⟩
 ·exact ⟨_, _, rfl⟩
 ·exact ⟨_, _, rfl⟩
def RowMem (w : World) (s : Value) (l : List Bool) : Prop := (s = .slice none 0 0 /\ l = []) ∨ ∃ g, s = .slice (some ⟨g, 0, none⟩) ((l.length + 7) / 8) ((l.length + 7) / 8) /\ Has w g (bytesObj (Bs.pack l))
theorem RowMem.sl {w : World} {s : Value} {l : List Bool} (h : RowMem w s l) (hl : l.length <= 100000) : Sl w s (Bs.pack l) := by
 rcases h with ⟨rfl, rfl⟩ | ⟨g, rfl, h⟩
 ·exact Sl.nil _
 ·exact Sl.has h (Bs.pack_lt l) (by rw [Bs.pack_length]; omega) _ _ (Bs.pack_length l).symm
theorem RowMem.later {w w' : World} {s : Value} {l : List Bool} (h : RowMem w s l) (hb : Below w.heap.size w w') : RowMem w' s l := h.imp id fun ⟨g, e, h⟩ => ⟨g, e, h.later hb⟩
theorem RowMem.shape {w : World} {s : Value} {l : List Bool} (h : RowMem w s l) : ∃ a m cap, s = .slice a m cap := by
 rcases h with ⟨rfl, _⟩ | ⟨g, rfl, _⟩ <;> exact ⟨_, _, _, rfl⟩
end Go.Proofs.YtckbhciehmokdaaGreatDoor
namespace Go.Proofs.YtckbhciehmokdaaGreatDoor
set_option maxRecDepth 100000
set_option maxHeartbeats 8000000
open Go.RowKit Go.Maps Mt
def az1 (bs : List Nat) (x m : Nat) : Int := match lst bs x m with
 | none => -1
 | some p => (p : Int)
def az (bs : List Nat) (m : Nat) : List Value := (List.range m).map fun i => .int .i64 (az1 bs i i)
theorem az_succ (bs : List Nat) (m : Nat) : az bs (m + 1) = az bs m ++ [.int .i64 (az1 bs m m)] := by simp [az, List.range_succ]
theorem az_get (bs : List Nat) (m i : Nat) (h : i < m) : (az bs m)[i]? = some (.int .i64 (az1 bs i i)) := by simp [az, h]
theorem k3_inj (bs : List Nat) (x y : Nat) : k3 bs x = k3 bs y ↔ E3 bs x y := by
 unfold k3 E3
 constructor
 ·intro h
  simp only [Value.agg.injEq, Array.mk.injEq, List.cons.injEq, Value.int.injEq, true_and, and_true] at h
  omega
 ·rintro ⟨h1, h2, h3⟩
  rw [h1, h2, h3]
def Led (bs : List Nat) (m : Nat) (f : Value -> Option Value) : Prop := ∀ x, f (k3 bs x) = (lst bs x m).map fun (p : Nat) => Value.int .i64 (p : Int)
theorem led_step {bs : List Nat} {m : Nat} {f : Value -> Option Value} (h : Led bs m f) : Led bs (m + 1) (apd f (k3 bs m) (some (.int .i64 (m : Int)))) := fun x => by
 simp only [lst]
 by_cases e : E3 bs m x
 ·rw [if_pos e, (k3_inj bs x m).2 e.symm, apd_same]; rfl
 ·rw [if_neg e, apd_ne _ _ (fun e2 => e ((k3_inj bs x m).1 e2).symm)]
  exact h x
theorem led_at {bs : List Nat} {m : Nat} {f : Value -> Option Value} (h : Led bs m f) (x : Nat) : f (k3 bs x) = none /\ az1 bs x m = -1 ∨ f (k3 bs x) = some (.int .i64 (az1 bs x m)) := by
 rw [h x]
 unfold az1
 cases lst bs x m with
 | none => exact Or.inl ⟨rfl, rfl⟩
 | some p => exact Or.inr rfl
def Pla (base : Nat) (w : World) (R B : Nat) (bs : List Nat) (m : Nat) : Prop :=
 ∃ A f, base <= R /\ base <= B /\ Has w R (.cells #[.map (some B), A] 125 (0, 0)) /\ Ap Tryz.prog 178 w B m f /\ Led bs m f /\ w.ownsRow base 3 1 A m (az bs m)
theorem latest_pla {base : Nat} {w : World} {R B : Nat} {bs : List Nat} {m : Nat} (h : Pla base w R B bs m) (h8 : ∀ x ∈ bs, x < 256) (i : Nat) :
  Calls Tryz.prog 128 #[.pointer (some ⟨R, 0, none⟩), k3 bs i] w fun e w' => e = .returned (.int .i64 (az1 bs i m)) /\ Below w.heap.size w w' := by
 obtain ⟨A, f, _, _, hx, hm, hf, _⟩ := h
 exact latest_ok R B m i A f bs w h8 hx hm _ (led_at hf i)
theorem Pla.later {base : Nat} {w w' : World} {R B : Nat} {bs : List Nat} {m : Nat} (h : Pla base w R B bs m) (hb : Below w.heap.size w w') : Pla base w' R B bs m := by
 obtain ⟨A, f, h1, h2, hx, hm, hf, ho⟩ := h
 exact ⟨A, f, h1, h2, hx.later hb, hm.later hb, hf, own_stays ho hb⟩
end Go.Proofs.YtckbhciehmokdaaGreatDoor
namespace Go.Proofs.YtckbhciehmokdaaGreatDoor
set_option maxRecDepth 100000
set_option maxHeartbeats 8000000
open Go.RowKit
theorem size_ok (t : If.Tk) (ht : t.len <= 258) (w : World) : Calls Tryz.prog 86 #[.agg #[.int .i64 (t.len : Int), .int .i64 (t.far : Int), .int .u8 (t.lit : Int)]] w fun e w' => e = .returned (.int .i64 ((If.sz t : Nat) : Int)) /\ Below w.heap.size w w' := by
 have HB := LH (below1 w (.cells #[.int .i64 (t.len : Int), .int .i64 (t.far : Int), .int .u8 (t.lit : Int)] 48))
 obtain ⟨u0, u1, u2⟩ := cells3 (Has.new w (.cells #[.int .i64 (t.len : Int), .int .i64 (t.far : Int), .int .u8 (t.lit : Int)] 48))
 by_cases h0 : t.len = 0
 ·have e : If.sz t = 1 := by unfold If.sz; rw [if_pos h0]
  rw [e]
  rw [h0] at u0 HB ⊢
  clear h0 e ht
  go_enter Tryz.func86, Tryz.ntmps86
  go_wp2_with fail
  go_ret
  exact ⟨rfl, HB.out⟩
 ·have e : If.sz t = t.len := by unfold If.sz; rw [if_neg h0]
  rw [e]
  have h1 : (1 : Int) <= (t.len : Int) := by omega
  have h2 : max (t.len : Int) 1 = (t.len : Int) := by omega
  clear h0 e ht
  go_enter Tryz.func86, Tryz.ntmps86
  go_wp2_with fail
  go_ret
  exact ⟨rfl, HB.out⟩
end Go.Proofs.YtckbhciehmokdaaGreatDoor
namespace Go.Proofs.YtckbhciehmokdaaGreatDoor
set_option maxRecDepth 100000
set_option maxHeartbeats 8000000
open Go.RowKit
theorem bytes_first (w : World) (a : Option Addr) (len cap : Nat) (bs : List Nat) (ty : TypeId) (hs : Sl w (.slice a len cap) bs) (hl : len <= 1000000) :
  ∃ g capn w', (Builtin.append_ #[22, 22] ty #[.slice (some ⟨w.heap.size, 0, none⟩) 0 0, .slice a len cap]).run Tryz.prog (w.alloc (.cells #[] 5)) = .ok (.slice (some ⟨g, 0, none⟩) len capn) w' /\
   w'.ownsRow w.heap.size 5 1 (.slice (some ⟨g, 0, none⟩) len capn) len (vb bs) /\ Below w.heap.size w w' := by
 obtain ⟨i0, hi, hz0, hz1, hz2⟩ := info_parts Tryz.infoU8
 have hb := below1 w (.cells #[] 5)
 have hown := World.ownsRow_lit (base := w.heap.size) (e := 5) (size := 1) w #[] 0 (Nat.le_refl _) (by unfold maxLen; omega) rfl
 have hs1 := hs.later hb
 obtain ⟨g, capn, w', hrun, hown', hgrow⟩ := run_append_mine (P := Tryz.prog) (w := w.alloc (.cells #[] 5)) w.heap.size 22 ty 5 i0 (.int .u8 0) 1 1 Tryz.underlying22 hi hz0 hz1 hz2 rfl (by decide)
  w.heap.size 0 0 [] hown a len cap (vb bs) (by rw [vb_length]; have := hs.len.1; omega) hs.len.2.2 (fun h0 => hs1.cells h0) (oneCell_vb _) (by unfold maxLen; omega) (by omega) (by simp)
 have HB : Below w.heap.size w w' := (hb.mono (Nat.le_refl _)).grown hgrow (by simp) (fun k e => by cases e; exact Nat.le_refl _)
 rw [Nat.zero_add, List.nil_append] at hown'
 rw [Nat.zero_add] at hrun
 exact ⟨g, capn, w', hrun, hown', HB⟩
theorem sl_take {w : World} {a : Option Addr} {len cap : Nat} {bs : List Nat} (h : Sl w (.slice a len cap) bs) (k : Nat) (hk : k <= len) : Sl w (.slice a k cap) (bs.take k) := by
 obtain ⟨a', len', cap', he, h1, h2, h3, h4, h5⟩ := h
 injection he with e1 e2 e3
 subst e1 e2 e3
 refine ⟨_, k, cap, rfl, by rw [List.length_take]; omega, by omega, fun h => ⟨by have := (h3 h).1; omega, (h3 h).2⟩, fun x hx => h4 x (List.mem_of_mem_take hx), fun h0 => ?_⟩
 obtain ⟨b, off, rfl, hlt, hc⟩ := h5 (by omega)
 refine ⟨b, off, rfl, hlt, fun i hi => ?_⟩
 rw [hc i (by omega), List.getElem?_take_of_lt hi]
theorem sl_byte {w : World} {s : Value} {bs : List Nat} (h : Sl w s bs) : ∀ x ∈ bs, x < 256 := by obtain ⟨_, _, _, _, _, _, _, h, _⟩ := h; exact h
end Go.Proofs.YtckbhciehmokdaaGreatDoor
namespace Go.Proofs.YtckbhciehmokdaaGreatDoor
set_option maxRecDepth 100000
set_option maxHeartbeats 8000000
open Go.RowKit
def NB (w w' : World) : Prop := ∀ (k : Nat) (cs : Array Value) (t : TypeId) (fr : Nat × Nat), Has w k (.cells cs t fr) -> t ≠ 5 -> Has w' k (.cells cs t fr)
theorem NB.refl (w : World) : NB w w := fun _ _ _ _ h _ => h
theorem NB.trans {w w1 w2 : World} (h : NB w w1) (h2 : NB w1 w2) : NB w w2 := fun k cs t fr hk ht => h2 k cs t fr (h k cs t fr hk ht) ht
theorem NB.of_below {w w' : World} (h : Below w.heap.size w w') : NB w w' := fun _ _ _ _ hk _ => hk.later h
theorem NB.drew {w w' : World} (h : NB w w') : NB w w'.drew := h
theorem NB.grown {w w' : World} {base : Nat} {s : Value} {l : List Bool} (hr : Row w base s l) (h : w.grownBy w' s.ownBlock) : NB w w' := fun _ _ _ _ hk ht => hk.grown h (fun e => (own_ne_ty hr hk ht) e.symm)
theorem NB.set {w w1 : World} (h : NB w w1) {a : Addr} (ha : w.heap.size <= a.block) (v : Value) : NB w (w1.setCell a v) := fun k cs t fr hk ht => (h k cs t fr hk ht).set (show k ≠ a.block by have := hk.lt; omega) v
end Go.Proofs.YtckbhciehmokdaaGreatDoor
namespace Go.Proofs.YtckbhciehmokdaaGreatDoor
set_option maxRecDepth 100000
set_option maxHeartbeats 8000000
open Go.RowKit
namespace Sy
def lsymA (n : Int) : Nat × Nat × Nat := if 3 <= n /\ n <= 258 then (257 + lk n.toNat, n.toNat - at' lf (lk n.toNat), 0) else (0, 0, 2)
def dsymA (n : Int) : Nat × Nat × Nat := if 1 <= n /\ n <= 32768 then (dk n.toNat, n.toNat - at' df (dk n.toNat), 0) else (0, 0, 2)
def lbitA (s : Int) : Nat × Nat := if 257 <= s /\ s <= 285 then (at' lb (s - 257).toNat, 0) else (0, 13)
def dbitA (s : Int) : Nat × Nat := if 0 <= s /\ s <= 29 then (at' db s.toNat, 0) else (0, 13)
def lnumA (s v : Int) : Nat × Nat := if 257 <= s /\ s <= 285 then (if 0 <= v /\ v < (2 ^ at' lb (s - 257).toNat : Nat) then (at' lf (s - 257).toNat + v.toNat, 0) else (0, 2)) else (0, 13)
def dnumA (s v : Int) : Nat × Nat := if 0 <= s /\ s <= 29 then (if 0 <= v /\ v < (2 ^ at' db s.toNat : Nat) then (at' df s.toNat + v.toNat, 0) else (0, 2)) else (0, 13)
end Sy
theorem lsym_any (n : Int) (w : World) (hi : n <= 9223372036854775807) : Calls Tryz.prog 105 #[scl 257 3 4 7, .int .i64 n] w (Three (Sy.lsymA n).1 (Sy.lsymA n).2.1 (Sy.lsymA n).2.2 w) := by
 unfold Sy.lsymA
 by_cases h3 : n < 3
 ·rw [if_neg (by omega)]; exact lsym_less n w h3
 ·by_cases h8 : n = 258
  ·subst h8; rw [if_pos (by omega)]; exact lsym_most w
  ·obtain ⟨m, rfl⟩ : ∃ m : Nat, n = (m : Int) := ⟨n.toNat, by omega⟩
   refine (lsym_loop m w (by omega) (by omega) (by omega)).mono ?_
   rintro e w' (⟨h1, h2⟩ | ⟨h1, h2⟩)
   ·rw [if_pos (by omega)]; exact h2
   ·rw [if_neg (by omega)]; exact h2
theorem dsym_any (n : Int) (w : World) (hi : n <= 9223372036854775807) : Calls Tryz.prog 105 #[scl 0 1 2 15, .int .i64 n] w (Three (Sy.dsymA n).1 (Sy.dsymA n).2.1 (Sy.dsymA n).2.2 w) := by
 unfold Sy.dsymA
 by_cases h3 : n < 1
 ·rw [if_neg (by omega)]; exact dsym_less n w h3
 ·obtain ⟨m, rfl⟩ : ∃ m : Nat, n = (m : Int) := ⟨n.toNat, by omega⟩
  refine (dsym_loop m w (by omega) (by omega)).mono ?_
  rintro e w' (⟨h1, h2⟩ | ⟨h1, h2⟩)
  ·rw [if_pos (by omega)]; exact h2
  ·rw [if_neg (by omega)]; exact h2
theorem lbits_any (s : Int) (w : World) : Calls Tryz.prog 106 #[scl 257 3 4 7, .int .i64 s] w (Two (Sy.lbitA s).1 (Sy.lbitA s).2 w) := by
 unfold Sy.lbitA
 by_cases h : 257 <= s /\ s <= 285
 ·rw [if_pos h]
  by_cases h8 : s = 285
  ·subst h8; exact lbits_lone w
  ·obtain ⟨k, rfl⟩ : ∃ k : Nat, s = 257 + (k : Int) := ⟨(s - 257).toNat, by omega⟩
   have e : (257 + (k : Int) - 257).toNat = k := by omega
   rw [e]; exact lbits_ok k w (by omega)
 ·rw [if_neg h]; exact lbits_bad s w (by omega)
theorem dbits_any (s : Int) (w : World) : Calls Tryz.prog 106 #[scl 0 1 2 15, .int .i64 s] w (Two (Sy.dbitA s).1 (Sy.dbitA s).2 w) := by
 unfold Sy.dbitA
 by_cases h : 0 <= s /\ s <= 29
 ·rw [if_pos h]
  obtain ⟨k, rfl⟩ : ∃ k : Nat, s = (k : Int) := ⟨s.toNat, by omega⟩
  have := dbits_ok k w (by omega)
  rw [Int.zero_add] at this
  exact this
 ·rw [if_neg h]; exact dbits_bad s w (by omega)
theorem lsym_go (n : Int) (w : World) (hi : n <= 9223372036854775807) : Calls Tryz.prog 62 #[.int .i64 n] w (Three (Sy.lsymA n).1 (Sy.lsymA n).2.1 (Sy.lsymA n).2.2 w) := by
 have h1 := fun w => lengths_is w
 have h2 := fun w => lsym_any n w hi
 obtain ⟨a, ha⟩ : ∃ a, a = (Sy.lsymA n).1 := ⟨_, rfl⟩
 obtain ⟨b, hb⟩ : ∃ b, b = (Sy.lsymA n).2.1 := ⟨_, rfl⟩
 obtain ⟨c, hc⟩ : ∃ c, c = (Sy.lsymA n).2.2 := ⟨_, rfl⟩
 rw [<- ha, <- hb, <- hc]
 simp only [<- ha, <- hb, <- hc] at h2
 unfold scl at h1 h2
 have H1 := LH h1
 have H2 := LH h2
 clear h1 h2 ha hb hc
 go_enter Tryz.func62, Tryz.ntmps62
 go_wp2_with fail
 refine (H1.out _).mono ?_
 rintro e w1 ⟨rfl, hb⟩
 have B1 := LH hb
 clear hb
 go_wp2_with fail
 refine (H2.out _).mono ?_
 rintro e w2 ⟨rfl, hb⟩
 have B2 := LH (B1.out.trans (hb.mono B1.out.size))
 clear hb
 go_wp2_with fail
 go_ret3
 exact ⟨rfl, B2.out⟩
theorem lbit_go (s : Int) (w : World) : Calls Tryz.prog 63 #[.int .i64 s] w (Two (Sy.lbitA s).1 (Sy.lbitA s).2 w) := by
 have h1 := fun w => lengths_is w
 have h2 := fun w => lbits_any s w
 obtain ⟨a, ha⟩ : ∃ a, a = (Sy.lbitA s).1 := ⟨_, rfl⟩
 obtain ⟨b, hb⟩ : ∃ b, b = (Sy.lbitA s).2 := ⟨_, rfl⟩
 rw [<- ha, <- hb]
 simp only [<- ha, <- hb] at h2
 unfold scl at h1 h2
 have H1 := LH h1
 have H2 := LH h2
 clear h1 h2 ha hb
 go_enter Tryz.func63, Tryz.ntmps63
 go_wp2_with fail
 refine (H1.out _).mono ?_
 rintro e w1 ⟨rfl, hb⟩
 have B1 := LH hb
 clear hb
 go_wp2_with fail
 refine (H2.out _).mono ?_
 rintro e w2 ⟨rfl, hb⟩
 have B2 := LH (B1.out.trans (hb.mono B1.out.size))
 clear hb
 go_wp2_with fail
 go_ret2
 exact ⟨rfl, B2.out⟩
theorem dsym_go (n : Int) (w : World) (hi : n <= 9223372036854775807) : Calls Tryz.prog 64 #[.int .i64 n] w (Three (Sy.dsymA n).1 (Sy.dsymA n).2.1 (Sy.dsymA n).2.2 w) := by
 have h1 := fun w => distances_is w
 have h2 := fun w => dsym_any n w hi
 obtain ⟨a, ha⟩ : ∃ a, a = (Sy.dsymA n).1 := ⟨_, rfl⟩
 obtain ⟨b, hb⟩ : ∃ b, b = (Sy.dsymA n).2.1 := ⟨_, rfl⟩
 obtain ⟨c, hc⟩ : ∃ c, c = (Sy.dsymA n).2.2 := ⟨_, rfl⟩
 rw [<- ha, <- hb, <- hc]
 simp only [<- ha, <- hb, <- hc] at h2
 unfold scl at h1 h2
 have H1 := LH h1
 have H2 := LH h2
 clear h1 h2 ha hb hc
 go_enter Tryz.func64, Tryz.ntmps64
 go_wp2_with fail
 refine (H1.out _).mono ?_
 rintro e w1 ⟨rfl, hb⟩
 have B1 := LH hb
 clear hb
 go_wp2_with fail
 refine (H2.out _).mono ?_
 rintro e w2 ⟨rfl, hb⟩
 have B2 := LH (B1.out.trans (hb.mono B1.out.size))
 clear hb
 go_wp2_with fail
 go_ret3
 exact ⟨rfl, B2.out⟩
theorem dbit_go (s : Int) (w : World) : Calls Tryz.prog 65 #[.int .i64 s] w (Two (Sy.dbitA s).1 (Sy.dbitA s).2 w) := by
 have h1 := fun w => distances_is w
 have h2 := fun w => dbits_any s w
 obtain ⟨a, ha⟩ : ∃ a, a = (Sy.dbitA s).1 := ⟨_, rfl⟩
 obtain ⟨b, hb⟩ : ∃ b, b = (Sy.dbitA s).2 := ⟨_, rfl⟩
 rw [<- ha, <- hb]
 simp only [<- ha, <- hb] at h2
 unfold scl at h1 h2
 have H1 := LH h1
 have H2 := LH h2
 clear h1 h2 ha hb
 go_enter Tryz.func65, Tryz.ntmps65
 go_wp2_with fail
 refine (H1.out _).mono ?_
 rintro e w1 ⟨rfl, hb⟩
 have B1 := LH hb
 clear hb
 go_wp2_with fail
 refine (H2.out _).mono ?_
 rintro e w2 ⟨rfl, hb⟩
 have B2 := LH (B1.out.trans (hb.mono B1.out.size))
 clear hb
 go_wp2_with fail
 go_ret2
 exact ⟨rfl, B2.out⟩
end Go.Proofs.YtckbhciehmokdaaGreatDoor
namespace Go.Proofs.YtckbhciehmokdaaGreatDoor
set_option maxRecDepth 100000
set_option maxHeartbeats 8000000
namespace If
open Hd (num rd head)
def Sg (l : List Bool) (p : Nat) (s : List Bool) : Prop := ∃ pre post, pre.length = p /\ l = pre ++ (s ++ post)
theorem Sg.left {l : List Bool} {p : Nat} {a b : List Bool} (h : Sg l p (a ++ b)) : Sg l p a := by
 obtain ⟨x, y, e1, e2⟩ := h
 exact ⟨x, b ++ y, e1, by rw [e2, List.append_assoc]⟩
theorem Sg.right {l : List Bool} {p : Nat} {a b : List Bool} (h : Sg l p (a ++ b)) : Sg l (p + a.length) b := by
 obtain ⟨x, y, e1, e2⟩ := h
 exact ⟨x ++ a, y, by rw [List.length_append, e1], by rw [e2, List.append_assoc, List.append_assoc]⟩
theorem Sg.le {l : List Bool} {p : Nat} {s : List Bool} (h : Sg l p s) : p + s.length <= l.length := by
 obtain ⟨x, y, e1, e2⟩ := h
 rw [e2, List.length_append, List.length_append]; omega
theorem Sg.num {l : List Bool} {p : Nat} {s : List Bool} (h : Sg l p s) : Hd.num l p s.length = Bs.num s := by
 obtain ⟨x, y, e1, e2⟩ := h
 subst e2
 unfold Hd.num
 rw [<- e1, List.drop_left, List.take_left]
theorem Sg.bits {l : List Bool} {p v n : Nat} (h : Sg l p (Bs.bitsOf v n)) (hv : v < 2 ^ n) : Hd.num l p n = v := by
 have := h.num
 rwa [Bs.bitsOf_length, Bs.num_bitsOf v n hv] at this
theorem Sg.room {l : List Bool} {p v n : Nat} (h : Sg l p (Bs.bitsOf v n)) : p + n <= l.length := by
 have := h.le
 rwa [Bs.bitsOf_length] at this
theorem Sg.whole (l z : List Bool) : Sg (l ++ z) 0 l := ⟨[], z, rfl, rfl⟩
theorem ln_zz (ls : List Nat) (x : Nat) : (Hd.zz ls)[x]?.getD 0 = ((Hf.ln ls x : Nat) : Int) := Hd.zz_get ls x
theorem Sg.rd {ls : List Nat} {l : List Bool} {p x : Nat} (hf : Fit (Hd.zz ls)) (h2 : Hf.ln ls x ≠ 0) (h : Sg l p (cw ls x)) : Hd.rd ls l p = (x, p + Hf.ln ls x, 0) := by
 obtain ⟨pre, post, rfl, e⟩ := h
 have h1 : x < ls.length := by
  rcases Nat.lt_or_ge x ls.length with h | h
  ·exact h
  ·exact absurd (by unfold Hf.ln; rw [List.getElem?_eq_none h]; rfl) h2
 obtain ⟨kk, e1, e2, e3, e4⟩ := code_hit hf l pre post x (by rw [Hd.zz_length]; exact h1) (by rw [ln_zz]; omega) (by rw [Hd.nat_zz]; exact e)
 rw [Hd.nat_zz] at e1 e2 e3 e4
 have := Hd.rd_is (Hf.rd_hit e2 e3 e4)
 rw [e1] at this
 exact this
def tokRow (lit dist : List Nat) (t : Tk) : List Bool :=
 if t.len = 0 then cw lit t.lit else
 (cw lit (257 + Sy.lk t.len) ++ Bs.bitsOf (t.len - Sy.at' Sy.lf (Sy.lk t.len)) (Sy.at' Sy.lb (Sy.lk t.len))) ++ (cw dist (Sy.dk t.far) ++ Bs.bitsOf (t.far - Sy.at' Sy.df (Sy.dk t.far)) (Sy.at' Sy.db (Sy.dk t.far)))
def toksRow (lit dist : List Nat) (ts : List Tk) : List Bool := (ts.map (tokRow lit dist)).flatten
theorem toksRow_cons (lit dist : List Nat) (t : Tk) (ts : List Tk) : toksRow lit dist (t :: ts) = tokRow lit dist t ++ toksRow lit dist ts := rfl
theorem toksRow_snoc (lit dist : List Nat) (t : Tk) (ts : List Tk) : toksRow lit dist (ts ++ [t]) = toksRow lit dist ts ++ tokRow lit dist t := by simp [toksRow]
def Has1 (lit dist : List Nat) (t : Tk) : Prop := if t.len = 0 then Hf.ln lit t.lit ≠ 0 else Hf.ln lit (257 + Sy.lk t.len) ≠ 0 /\ Hf.ln dist (Sy.dk t.far) ≠ 0
theorem lsym_lt (n : Nat) (h1 : 3 <= n) (h2 : n <= 258) : n - Sy.at' Sy.lf (Sy.lk n) < 2 ^ Sy.at' Sy.lb (Sy.lk n) := by
 obtain ⟨h3, h4, h5⟩ := Sy.lk_has n h1
 generalize Sy.lk n = k at h3 h4 h5 ⊢
 rcases Nat.lt_or_ge k 27 with h6 | h6
 ·have := Sy.lf_next k h6
  have := h5 (by omega)
  omega
 ·rcases Nat.lt_or_ge k 28 with h7 | h7
  ·obtain rfl : k = 27 := by omega
   have := h5 h7
   have e1 : Sy.at' Sy.lf 27 = 227 := by decide
   have e2 : Sy.at' Sy.lb 27 = 5 := by decide
   have e3 : Sy.at' Sy.lf (27 + 1) = 258 := by decide
   rw [e1, e2]; omega
  ·obtain rfl : k = 28 := by omega
   have e1 : Sy.at' Sy.lf 28 = 258 := by decide
   have e2 : Sy.at' Sy.lb 28 = 0 := by decide
   rw [e1, e2]; omega
theorem dsym_lt (n : Nat) (h : 1 <= n) (h2 : n <= 32768) : n - Sy.at' Sy.df (Sy.dk n) < 2 ^ Sy.at' Sy.db (Sy.dk n) := by
 obtain ⟨h3, h4, h5⟩ := Sy.dk_has n h
 generalize Sy.dk n = k at h3 h4 h5 ⊢
 rcases Nat.lt_or_ge k 29 with h6 | h6
 ·have := Sy.df_next k h6
  have := h5 h6
  omega
 ·obtain rfl : k = 29 := by omega
  have e1 : Sy.at' Sy.df 29 = 24577 := by decide
  have e2 : Sy.at' Sy.db 29 = 13 := by decide
  rw [e1, e2]; omega
theorem ln_mem {ls : List Nat} {x : Nat} (h : Hf.ln ls x ≠ 0) : ¬ ∀ y ∈ ls, y = 0 := by
 intro h0
 rcases Nat.lt_or_ge x ls.length with hx | hx
 ·apply h
  unfold Hf.ln
  rw [List.getElem?_eq_getElem hx]
  exact h0 _ (List.getElem_mem hx)
 ·apply h
  unfold Hf.ln
  rw [List.getElem?_eq_none hx]
  rfl
theorem copy_told {dist : List Nat} {l : List Bool} {p most n far : Nat} {out : List Nat} (hf : Fit (Hd.zz dist)) (h1 : 3 <= n) (h2 : n <= 258) (h3 : 1 <= far) (h4 : far <= 32768) (h5 : far <= out.length) (h6 : out.length + n <= most) (hd : Hf.ln dist (Sy.dk far) ≠ 0)
  (h : Sg l p (Bs.bitsOf (n - Sy.at' Sy.lf (Sy.lk n)) (Sy.at' Sy.lb (Sy.lk n)) ++ (cw dist (Sy.dk far) ++ Bs.bitsOf (far - Sy.at' Sy.df (Sy.dk far)) (Sy.at' Sy.db (Sy.dk far))))) :
  copy l dist most (257 + Sy.lk n) p out = (cp far n out, p + Sy.at' Sy.lb (Sy.lk n) + Hf.ln dist (Sy.dk far) + Sy.at' Sy.db (Sy.dk far), 0) := by
 have g1 := Sy.lk_has n h1
 have g2 := Sy.dk_has far h3
 have a1 := h.left
 have a2 := h.right
 rw [Bs.bitsOf_length] at a2
 have a3 := a2.left
 have a4 := a2.right
 rw [cw_len] at a4
 have e1 := a1.bits (lsym_lt n h1 h2)
 have e2 := a4.bits (dsym_lt far h3 h4)
 have r1 := a1.room
 have r2 := a4.room
 have e3 := a3.rd hf hd
 unfold copy
 rw [show 257 + Sy.lk n - 257 = Sy.lk n by omega, e3]
 simp only
 rw [if_neg (by omega), if_neg (by omega), if_neg (ln_mem hd), if_neg (by simp), if_neg (by omega), if_neg (by omega), e1, e2, if_neg (by omega), if_neg (by omega)]
 rw [show Sy.at' Sy.df (Sy.dk far) + (far - Sy.at' Sy.df (Sy.dk far)) = far by omega, show Sy.at' Sy.lf (Sy.lk n) + (n - Sy.at' Sy.lf (Sy.lk n)) = n by omega]
def TV (most : Nat) : List Tk -> Nat -> Prop
 | [], _ => True
 | t :: ts, n => Val t n /\ n + sz t <= most /\ TV most ts (n + sz t)
theorem syms_is {lit dist : List Nat} {l : List Bool} {most : Nat} (hf : Fit (Hd.zz lit)) (hd : (∃ t : Tk, t.len ≠ 0) -> Fit (Hd.zz dist) ∨ ∀ x, Hf.ln dist x = 0) (he : Hf.ln lit 256 ≠ 0) :
  ∀ (ts : List Tk) (k : Nat) (out : List Nat) (p : Nat), (∀ t ∈ ts, Has1 lit dist t) -> TV most ts out.length -> ts.length < k -> Sg l p (toksRow lit dist ts ++ cw lit 256) ->
  syms l lit dist most k out p = (ts.foldl tell1 out, p + (toksRow lit dist ts).length + Hf.ln lit 256, 0)
 | [], 0, _, _, _, _, h, _ => by simp at h
 | [], k + 1, out, p, _, _, _, h => by
  have e := h.rd hf he
  simp only [syms]
  rw [e]
  simp only
  rw [if_neg (by simp), if_pos trivial]
  rfl
 | t :: ts, 0, _, _, _, _, h, _ => by simp at h
 | t :: ts, k + 1, out, p, h1, h2, h3, h => by
  obtain ⟨v1, v2, v3⟩ := h2
  rw [toksRow_cons, List.append_assoc] at h
  have b1 := h.left
  have b2 := h.right
  have u1 := h1 t (List.mem_cons_self ..)
  have ih := syms_is hf hd he ts k (tell1 out t) (p + (tokRow lit dist t).length) (fun x hx => h1 x (List.mem_cons_of_mem _ hx)) (by rw [tell1_length]; exact v3) (by simpa using h3) b2
  rw [List.foldl_cons, toksRow_cons, List.length_append]
  rw [show p + ((tokRow lit dist t).length + (toksRow lit dist ts).length) + Hf.ln lit 256 = p + (tokRow lit dist t).length + (toksRow lit dist ts).length + Hf.ln lit 256 by omega, <- ih]
  unfold Has1 at u1
  unfold tokRow at b1 ⊢
  unfold tell1
  by_cases h0 : t.len = 0
  ·rw [if_pos h0] at u1 b1 ⊢
   rw [if_pos h0]
   have e := b1.rd hf u1
   have hb : t.lit < 256 := by
    rcases v1.1 with hb | hc
    ·exact hb.2.2
    ·have := hc.2.1; omega
   have hs : sz t = 1 := by unfold sz; rw [if_pos h0]
   simp only [syms]
   rw [e]
   simp only
   rw [if_neg (by simp), if_neg (by omega), if_neg (by omega), if_neg (by omega), cw_len]
  ·rw [if_neg h0] at u1 b1 ⊢
   rw [if_neg h0]
   have hc : Cop t := by
    rcases v1.1 with hb | hc
    ·exact absurd hb.1 h0
    ·exact hc
   obtain ⟨_, c1, c2, c3, c4⟩ := hc
   have hs : sz t = t.len := by unfold sz; rw [if_neg h0]
   have fd : Fit (Hd.zz dist) := by
    rcases hd ⟨t, h0⟩ with h | h
    ·exact h
    ·exact absurd (h _) u1.2
   have b0 := b1
   rw [List.append_assoc] at b1
   have e := b1.left.rd hf u1.1
   have b3 := b1.right
   rw [cw_len] at b3
   have ec := copy_told (most := most) fd c1 c2 c3 c4 v1.2 (by omega) u1.2 b3
   simp only [syms]
   rw [e]
   simp only
   rw [if_neg (by simp), if_neg (by omega), if_pos (by omega), ec]
   simp only
   rw [if_neg (by simp)]
   congr 1
   simp only [List.length_append, cw_len, Bs.bitsOf_length]
   omega
end If
end Go.Proofs.YtckbhciehmokdaaGreatDoor
namespace Go.Proofs.YtckbhciehmokdaaGreatDoor.Ls
set_option maxRecDepth 100000
set_option maxHeartbeats 8000000
open Go.RowKit
theorem sym_one (g cap n a m b : Nat) (kf : Nat -> Nat) (p : Nat -> Prop) (d : Nat -> Nat) (w : World) (hr : Rw w g n d) (hn : n <= 288) (hbn : b <= n) (ham : Hid (m = a + 1)) (hmb : m < b)
  (hs : St.Srt kf d m b) (hris : St.Ris kf d n) (hp : ∀ i, i < n -> p (d i)) (hcmp : Cmps g kf p w) :
  Calls Tryz.prog 222 #[.slice (some ⟨g, 0, none⟩) n cap, .int .i64 (a : Int), .int .i64 (m : Int), .int .i64 (b : Int), .func (.func 189) #[] #[]] w (SortPost g n w (SortIs kf n d a b)) := by
 have HR := LH hr
 have HC := LH hcmp
 have HP := LH hp
 have HS := LH hs
 have HI := LH hris
 have hlam : a < m := by have := ham.out; omega
 have h1 : ((m : Int) - (a : Int) == 1) = true := by have := ham.out; rw [beq_iff_eq]; omega
 clear hr hcmp hp hs hris
 go_enter Tryz.func222, Tryz.ntmps222
 go_wp2
 go_loopw [10, 11] (fun s10 s11 wr => ∃ (i j : Nat), s10 = .int .i64 i /\ s11 = .int .i64 j /\ Hid (LoIn kf d a m b i j) /\ Hid (Rw wr g n d) /\ Hid (Only g w wr)) (fun s t _ => (intOf t).toNat - (intOf s).toNat)
 case atStart => exact ⟨m, b, rfl, rfl, LoIn.start kf d a m b (by omega), HR, Only.refl _ _⟩
 case round =>
  obtain ⟨i, j, rfl, rfl, KI, KR, KO⟩ := hrel
  have i1 := KI.out.1
  have i2 := KI.out.2.1
  have i3 := KI.out.2.2.1
  by_cases hlt : i < j
  ·obtain ⟨h, hh⟩ : ∃ h : Nat, h = (i + j) / 2 := ⟨_, rfl⟩
   have hh1 : i <= h := by omega
   have hh2 : h < j := by omega
   have hh3 : ((i : Int) + (j : Int)) / 2 = (h : Int) := by omega
   clear hh
   have c1 := KR.out.cell h (by omega)
   have c2 := KR.out.cell a (by omega)
   obtain ⟨c, hc, hcall⟩ := HC.out.at KO.out HP.out (i := h) (j := a) (by omega) (by omega)
   obtain ⟨x, hx⟩ : ∃ x, x = d h := ⟨_, rfl⟩
   obtain ⟨y, hy⟩ : ∃ y, y = d a := ⟨_, rfl⟩
   rw [<- hx, <- hy] at hc hcall
   rw [<- hx] at c1
   rw [<- hy] at c2
   have HX := LH hx
   have HY := LH hy
   clear hx hy
   by_cases hk : kf x < kf y
   ·have h0 : decide (c < 0) = true := by rw [hc]; simpa using hk
    have HK := LH hk
    clear hc hk
    go_wp2
    go_quiet ((go_at_call 189; exact quiet_cmp (hcall _)))
    clear hcall
    go_wp2
    go_roundw
    case rel => exact ⟨h + 1, j, by go_num, rfl, KI.out.up HS.out hh1 hh2 (by rw [<- HX.out, <- HY.out]; exact HK.out), KR.out.drewN _, KO.out.trans (only_drewN (Only.refl _ _) _)⟩
    case measure => simp [intOf]; omega
   ·have h0 : decide (c < 0) = false := by rw [hc]; simpa using hk
    have HK := LH hk
    clear hc hk
    go_wp2
    go_quiet ((go_at_call 189; exact quiet_cmp (hcall _)))
    clear hcall
    go_wp2
    go_roundw
    case rel => exact ⟨i, h, rfl, rfl, KI.out.down HS.out hh1 hh2 (by rw [<- HX.out, <- HY.out]; exact HK.out), KR.out.drewN _, KO.out.trans (only_drewN (Only.refl _ _) _)⟩
    case measure => simp [intOf]; omega
  ·obtain rfl : i = j := by omega
   go_wp2
   go_loopw [13] (fun s13 wx => ∃ k : Nat, a <= k /\ k + 1 <= i /\ s13 = .int .i64 k /\ Hid (Rw wx g n (St.shl d a k)) /\ Hid (St.Swaps a b d (St.shl d a k)) /\ Hid (Only g w wx)) (fun s _ => i - (intOf s).toNat)
   case atStart => exact ⟨a, Nat.le_refl _, by omega, rfl, by show Rw _ _ _ _; rw [St.shl_zero]; exact KR.out, by show St.Swaps _ _ _ _; rw [St.shl_zero]; exact .refl _, KO⟩
   case round =>
    clear KR KO
    obtain ⟨k, hk1, hk2, rfl, KR, KS, KO⟩ := hrel
    by_cases hlt2 : k + 1 < i
    ·have c1 := KR.out.cell k (by omega)
     have c2 := KR.out.cell (k + 1) (by omega)
     have f1 := KR.out.free k (by omega)
     have f2 := KR.out.free (k + 1) (by omega)
     obtain ⟨x, hx⟩ : ∃ x, x = St.shl d a k k := ⟨_, rfl⟩
     obtain ⟨y, hy⟩ : ∃ y, y = St.shl d a k (k + 1) := ⟨_, rfl⟩
     rw [<- hx] at c1
     rw [<- hy] at c2
     have HX := LH hx
     have HY := LH hy
     have hne : ¬ k = k + 1 := by omega
     clear hx hy
     go_wp2
     go_region
     go_wp2
     all_goals
      go_roundw
      case rel =>
       have st := row_swap_on KR.out KO.out 1 k (k + 1) x y HX.out HY.out (by omega) (by omega) (by omega)
       exact ⟨k + 1, by omega, by omega, by go_num, by show Rw _ _ _ _; rw [St.shl_succ _ _ _ hk1]; exact st.1, by show St.Swaps _ _ _ _; rw [St.shl_succ _ _ _ hk1]; exact .step KS.out (by omega) (by omega) (by omega) (by omega), st.2⟩
      case measure => simp [intOf]; omega
    ·obtain rfl : i = k + 1 := by omega
     go_wp2
     go_end0
     refine ⟨rfl, _, KR.out, KO.out, ?_⟩
     have hm := ham.out
     subst hm
     exact LoIn.done KI.out HS.out HI.out hmb hbn KS.out
end Go.Proofs.YtckbhciehmokdaaGreatDoor.Ls
namespace Go.Proofs.YtckbhciehmokdaaGreatDoor
set_option maxRecDepth 100000
set_option maxHeartbeats 8000000
open Go.RowKit
theorem grow_nil (m : Nat) (h0 : 0 < m) (hm : m <= 1000) (w : World) : Calls Tryz.prog 108 #[.slice none 0 0, .int .i64 (m : Int)] w fun e w' => ∃ cap, e = .returned (.slice (some ⟨w.heap.size, 0, none⟩) 0 cap) /\ Own w.heap.size w' (.slice (some ⟨w.heap.size, 0, none⟩) 0 cap) [] /\ Below w.heap.size w w' := by
 obtain ⟨i0, hi, hz0, hz1, hz2⟩ := info_parts Tryz.infoInt
 have hr := Lib.run_append_nil_zeros (P := Tryz.prog) w 57 3 57 3 i0 (.int .i64 0) .i64 .i64 Tryz.underlying57 Tryz.underlying3 hi hz0 m h0 (by rw [hz1]; decide) (by omega) (by rw [hz2]; omega)
 have hge := grownCap_ge w m 0 3
 have hcm : grownCap w m 0 3 <= maxLen := grownCap_le_maxLen w m 0 3 (by unfold maxLen; omega)
 generalize grownCap w m 0 3 = cp at hr hge hcm
 have HR := LH hr
 have HCM := LH hcm
 have HC := LH hge
 have hle1 : (m : Int) <= (cp : Int) := by omega
 have hsz : (Builtin.zeroCells (Value.int .i64 0).cells m ++ Builtin.zeroCells (Value.int .i64 0).cells (cp - m)).size = cp := by
  rw [Array.size_append, size_zeroCells, size_zeroCells]; simp [Value.cells]; omega
 have HSZ := LH hsz
 generalize Builtin.zeroCells (Value.int .i64 0).cells m ++ Builtin.zeroCells (Value.int .i64 0).cells (cp - m) = cells at HR HSZ
 clear hr hcm hsz hge
 go_enter Tryz.func108, Tryz.ntmps108
 go_wp2_with (at_builtin; refine Lib.wpList_append_run _ rfl (.tmp 20) (.tmp 21) _ _ rfl _ _ rfl rfl _ _ HR.out ?_)
 go_ret
 refine ⟨cp, rfl, ⟨rfl, Or.inr ⟨w.heap.size, cp, cells, rfl, Nat.le_refl _, ?_, Nat.zero_le _, HCM.out, by rw [HSZ.out]; omega, by simp [vn]⟩⟩, below_drewN (below1 w _) 1⟩
 exact Has.new w _
theorem Own.grown {w w' : World} {base : Nat} {v : Value} {xs : List Nat} (h : Own base w v xs) (hg : w.grownBy w' v.ownBlock) {g : Nat} (hlt : g < base) (hw : base <= w.heap.size) : w'.heap[g]? = w.heap[g]? :=
 hg.block g (by omega) (fun e => by have := h.block g e.symm; omega)
theorem concat4 (C : Nat) (g0 g1 g2 g3 n0 n1 n2 n3 q0 q1 q2 q3 : Nat) (w : World) (hC : Has w C (.cells #[.slice (some ⟨g0, 0, none⟩) n0 n0, .slice (some ⟨g1, 0, none⟩) n1 n1, .slice (some ⟨g2, 0, none⟩) n2 n2, .slice (some ⟨g3, 0, none⟩) n3 n3] 57 (0, 0)))
  (h0 : Has w g0 (nums (List.replicate n0 q0))) (h1 : Has w g1 (nums (List.replicate n1 q1))) (h2 : Has w g2 (nums (List.replicate n2 q2))) (h3 : Has w g3 (nums (List.replicate n3 q3)))
  (p0 : 0 < n0) (p1 : 0 < n1) (p2 : 0 < n2) (p3 : 0 < n3) (l0 : n0 <= 200) (l1 : n1 <= 200) (l2 : n2 <= 200) (l3 : n3 <= 200) :
  Calls Tryz.prog 66 #[.slice (some ⟨C, 0, none⟩) 4 4] w fun e w' => ∃ v, e = .returned v /\ Own w.heap.size w' v (List.replicate n0 q0 ++ List.replicate n1 q1 ++ List.replicate n2 q2 ++ List.replicate n3 q3) /\ Below w.heap.size w w' := by
 have c0 : w.cell? ⟨C, 0, none⟩ = some (.slice (some ⟨g0, 0, none⟩) n0 n0) := by rw [hC.cell]; rfl
 have c1 : w.cell? ⟨C, 1, none⟩ = some (.slice (some ⟨g1, 0, none⟩) n1 n1) := by rw [hC.cell]; rfl
 have c2 : w.cell? ⟨C, 2, none⟩ = some (.slice (some ⟨g2, 0, none⟩) n2 n2) := by rw [hC.cell]; rfl
 have c3 : w.cell? ⟨C, 3, none⟩ = some (.slice (some ⟨g3, 0, none⟩) n3 n3) := by rw [hC.cell]; rfl
 have HC := LH hC
 have H0 := LH h0
 have H1 := LH h1
 have H2 := LH h2
 have H3 := LH h3
 clear hC h0 h1 h2 h3
 go_enter Tryz.func66, Tryz.ntmps66
 go_wp2_with fail
 refine wp_loop_rounds 5 ?_
 rw [rounds_succ]
 go_wp2_with fail
 rw [rounds_succ]
 go_wp2_with fail
 rw [rounds_succ]
 go_wp2_with fail
 rw [rounds_succ]
 go_wp2_with fail
 rw [rounds_succ]
 go_wp2_with fail
 have hgr := grow_nil (n0 + n1 + n2 + n3) (by omega) (by omega) w
 push_cast at hgr
 refine hgr.mono ?_
 clear hgr
 rintro e w1 ⟨cap, rfl, hO0, hb0⟩
 have HCl := LH HC.out.lt
 have HO0 := LH hO0
 have HB0 := LH hb0
 obtain ⟨v0, hv0⟩ : ∃ v0, v0 = Value.slice (some ⟨w.heap.size, 0, none⟩) 0 cap := ⟨_, rfl⟩
 rw [<- hv0] at HO0 ⊢
 clear c0 c1 c2 c3 hO0 hb0 hv0
 go_wp2_with fail
 refine wp_loop_rounds 5 ?_
 have hC0 := HC.out.below HB0.out HCl.out
 have c0 : w1.cell? ⟨C, 0, none⟩ = some (.slice (some ⟨g0, 0, none⟩) n0 n0) := by rw [hC0.cell]; rfl
 obtain ⟨v1, w2, hrun, hO, hg⟩ := nums_append HO0.out 57 g0 n0 n0 (List.replicate n0 q0) (H0.out.below HB0.out H0.out.lt) (by simp) p0 (by simp; omega) HB0.out.size
 have HR := LH hrun
 have HB1 := LH (HB0.out.grown hg HB0.out.size (fun q hq => HO0.out.block q hq))
 have HO1 := LH hO
 clear hC0 hrun hg hO
 rw [rounds_succ]
 go_wp2_with (at_builtin; (refine wpList_append_is rfl (.tmp 31) (.tmp 32) 57 rfl _ _ _ _ rfl rfl HR.out ?_))
 clear HR c0 HB0 HO0
 have hC1 := HC.out.below HB1.out HCl.out
 have c1 : w2.cell? ⟨C, 1, none⟩ = some (.slice (some ⟨g1, 0, none⟩) n1 n1) := by rw [hC1.cell]; rfl
 obtain ⟨v2, w3, hrun, hO, hg⟩ := nums_append HO1.out 57 g1 n1 n1 (List.replicate n1 q1) (H1.out.below HB1.out H1.out.lt) (by simp) p1 (by simp; omega) HB1.out.size
 have HR := LH hrun
 have HB2 := LH (HB1.out.grown hg HB1.out.size (fun q hq => HO1.out.block q hq))
 have HO2 := LH hO
 clear hC1 hrun hg hO
 rw [rounds_succ]
 go_wp2_with (at_builtin; (refine wpList_append_is rfl (.tmp 31) (.tmp 32) 57 rfl _ _ _ _ rfl rfl HR.out ?_))
 clear HR c1 HB1 HO1
 have hC2 := HC.out.below HB2.out HCl.out
 have c2 : w3.cell? ⟨C, 2, none⟩ = some (.slice (some ⟨g2, 0, none⟩) n2 n2) := by rw [hC2.cell]; rfl
 obtain ⟨v3, w4, hrun, hO, hg⟩ := nums_append HO2.out 57 g2 n2 n2 (List.replicate n2 q2) (H2.out.below HB2.out H2.out.lt) (by simp) p2 (by simp; omega) HB2.out.size
 have HR := LH hrun
 have HB3 := LH (HB2.out.grown hg HB2.out.size (fun q hq => HO2.out.block q hq))
 have HO3 := LH hO
 clear hC2 hrun hg hO
 rw [rounds_succ]
 go_wp2_with (at_builtin; (refine wpList_append_is rfl (.tmp 31) (.tmp 32) 57 rfl _ _ _ _ rfl rfl HR.out ?_))
 clear HR c2 HB2 HO2
 have hC3 := HC.out.below HB3.out HCl.out
 have c3 : w4.cell? ⟨C, 3, none⟩ = some (.slice (some ⟨g3, 0, none⟩) n3 n3) := by rw [hC3.cell]; rfl
 obtain ⟨v4, w5, hrun, hO, hg⟩ := nums_append HO3.out 57 g3 n3 n3 (List.replicate n3 q3) (H3.out.below HB3.out H3.out.lt) (by simp) p3 (by simp; omega) HB3.out.size
 have HR := LH hrun
 have HB4 := LH (HB3.out.grown hg HB3.out.size (fun q hq => HO3.out.block q hq))
 have HO4 := LH hO
 clear hC3 hrun hg hO
 rw [rounds_succ]
 go_wp2_with (at_builtin; (refine wpList_append_is rfl (.tmp 31) (.tmp 32) 57 rfl _ _ _ _ rfl rfl HR.out ?_))
 clear HR c3 HB3 HO3
 rw [rounds_succ]
 go_wp2_with fail
 go_ret
 exact ⟨_, rfl, by simpa using HO4.out, HB4.out⟩
end Go.Proofs.YtckbhciehmokdaaGreatDoor
