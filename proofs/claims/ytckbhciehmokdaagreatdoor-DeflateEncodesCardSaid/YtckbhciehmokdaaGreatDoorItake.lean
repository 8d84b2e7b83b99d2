import Derived.Test.YtckbhciehmokdaaGreatDoorHrget
import Derived.Test.YtckbhciehmokdaaGreatDoorQtail
import Derived.Test.YtckbhciehmokdaaGreatDoorSlone
import Derived.Deep.RegionLawGrows
import Derived.Deep.RegionHeld3
namespace Go.Proofs.YtckbhciehmokdaaGreatDoor
set_option maxRecDepth 100000
set_option maxHeartbeats 8000000
namespace If
structure Tk where
 len : Nat
 far : Nat
 lit : Nat
def tell1 (out : List Nat) (t : Tk) : List Nat := if t.len = 0 then out ++ [t.lit] else cp t.far t.len out
def tell (ts : List Tk) : List Nat := ts.foldl tell1 []
def Byt (t : Tk) : Prop := t.len = 0 /\ t.far = 0 /\ t.lit < 256
def Cop (t : Tk) : Prop := t.lit = 0 /\ 3 <= t.len /\ t.len <= 258 /\ 1 <= t.far /\ t.far <= 32768
def Val (t : Tk) (n : Nat) : Prop := (Byt t ∨ Cop t) /\ t.far <= n
def sz (t : Tk) : Nat := if t.len = 0 then 1 else t.len
theorem sz_pos (t : Tk) : 1 <= sz t := by unfold sz; split <;> omega
theorem tell1_length (out : List Nat) (t : Tk) : (tell1 out t).length = out.length + sz t := by
 unfold tell1 sz
 split
 ·simp
 ·rw [cp_length]
theorem tell_snoc (ts : List Tk) (t : Tk) : tell (ts ++ [t]) = tell1 (tell ts) t := by simp [tell, List.foldl_append]
def Toks (ts : List Tk) : Prop := ∀ i t, ts[i]? = some t -> Val t (tell (ts.take i)).length
theorem Toks.nil : Toks [] := fun i t h => by simp at h
theorem Toks.snoc {ts : List Tk} {t : Tk} (h : Toks ts) (ht : Val t (tell ts).length) : Toks (ts ++ [t]) := by
 intro i u hu
 rcases Nat.lt_trichotomy i ts.length with hi | hi | hi
 ·rw [List.getElem?_append_left hi] at hu
  rw [List.take_append_of_le_length (by omega)]
  exact h i u hu
 ·subst hi
  rw [List.getElem?_append_right (Nat.le_refl _)] at hu
  simp at hu
  subst hu
  simpa using ht
 ·rw [List.getElem?_eq_none (by simp; omega)] at hu
  cases hu
theorem tell_take_succ {ts : List Tk} {i : Nat} {t : Tk} (h : ts[i]? = some t) : tell (ts.take (i + 1)) = tell1 (tell (ts.take i)) t := by
 rw [List.take_add_one, h]
 exact tell_snoc _ _
theorem tell_take_le (ts : List Tk) : ∀ d i, i + d = ts.length -> (tell (ts.take i)).length <= (tell ts).length := by
 intro d
 induction d with
 | zero => intro i hi; rw [List.take_of_length_le (by omega)]; exact Nat.le_refl _
 | succ d ih =>
  intro i hi
  have h := ih (i + 1) (by omega)
  rw [tell_take_succ (List.getElem?_eq_getElem (show i < ts.length by omega)), tell1_length] at h
  omega
theorem tell_length_ge (ts : List Tk) : ∀ i, i <= ts.length -> i <= (tell (ts.take i)).length := by
 intro i
 induction i with
 | zero => intro _; omega
 | succ i ih =>
  intro hi
  have h := ih (by omega)
  rw [tell_take_succ (List.getElem?_eq_getElem (show i < ts.length by omega)), tell1_length]
  have := sz_pos ts[i]
  omega
theorem toks_length_le (ts : List Tk) : ts.length <= (tell ts).length := by
 have := tell_length_ge ts ts.length (Nat.le_refl _)
 rwa [List.take_length] at this
theorem cp_snoc (far : Nat) : ∀ (n : Nat) (out : List Nat), cp far (n + 1) out = cp far n out ++ [(cp far n out)[(cp far n out).length - far]?.getD 0]
 | 0, out => rfl
 | n + 1, out => by
  have := cp_snoc far n (out ++ [out[out.length - far]?.getD 0])
  simp only [cp] at this ⊢
  exact this
end If
end Go.Proofs.YtckbhciehmokdaaGreatDoor
namespace Go.Proofs.YtckbhciehmokdaaGreatDoor
set_option maxRecDepth 100000
set_option maxHeartbeats 8000000
namespace Hf
theorem apart_long (ls : List Nat) (j k : Nat) (hj : j < (ordl ls).length) (hk : k < (ordl ls).length) (hlt : ln ls (sy ls j) < ln ls (sy ls k)) : cd ls j < cd ls k / 2 ^ (ln ls (sy ls k) - ln ls (sy ls j)) := by
 have h15 := (sy_mem ls k hk).2.2
 have hjk : j < k := by
  rcases Nat.lt_trichotomy j k with h | h | h
  ·exact h
  ·rw [h] at hlt; omega
  ·have := sy_lt ls k j h hj; unfold Lt at this; omega
 have e1 := cd_pf ls j hj
 have e2 := cd_pf ls k hk
 have e3 := pf_mono ls (j + 1) k hjk
 have e4 : pf ls (j + 1) = pf ls j + 2 ^ (15 - ln ls (sy ls j)) := rfl
 have e5 : 2 ^ (ln ls (sy ls k) - ln ls (sy ls j)) * 2 ^ (15 - ln ls (sy ls k)) = 2 ^ (15 - ln ls (sy ls j)) := by
  rw [<- Nat.pow_add, show ln ls (sy ls k) - ln ls (sy ls j) + (15 - ln ls (sy ls k)) = 15 - ln ls (sy ls j) by omega]
 have hpos := Nat.two_pow_pos (15 - ln ls (sy ls k))
 rw [Nat.lt_iff_add_one_le, Nat.le_div_iff_mul_le (Nat.two_pow_pos _)]
 refine Nat.le_of_mul_le_mul_right ?_ hpos
 rw [Nat.mul_assoc, e5, e2, Nat.succ_mul, e1]
 omega
end Hf
end Go.Proofs.YtckbhciehmokdaaGreatDoor
namespace Go.Proofs.YtckbhciehmokdaaGreatDoor
set_option maxRecDepth 100000
set_option maxHeartbeats 8000000
namespace Hf
theorem vb_split (l : List Bool) (p n d : Nat) : ∃ r, r < 2 ^ d /\ vb l p (n + d) = vb l p n * 2 ^ d + r := by
 induction d with
 | zero => exact ⟨0, by simp, by simp⟩
 | succ d ih =>
  obtain ⟨r, hr, e⟩ := ih
  have hb : (l[p + (n + d)]?.getD false).toNat < 2 := Bool.toNat_lt _
  refine ⟨2 * r + (l[p + (n + d)]?.getD false).toNat, by rw [Nat.pow_succ]; omega, ?_⟩
  show 2 * vb l p (n + d) + (l[p + (n + d)]?.getD false).toNat = _
  rw [e, Nat.pow_succ]
  generalize vb l p n = v
  generalize 2 ^ d = q
  have h : v * (q * 2) = 2 * (v * q) := by rw [Nat.mul_comm q 2, <- Nat.mul_assoc, Nat.mul_comm v 2, Nat.mul_assoc]
  rw [h]
  omega
theorem vb_head (l : List Bool) (p n d : Nat) : vb l p (n + d) / 2 ^ d = vb l p n := by
 obtain ⟨r, hr, e⟩ := vb_split l p n d
 rw [e, Nat.mul_comm, Nat.mul_add_div (Nat.two_pow_pos d), Nat.div_eq_of_lt hr, Nat.add_zero]
theorem hit_beg {ls : List Nat} {l : List Bool} {p n k : Nat} (h : Hit ls l p n k) (m : Nat) (hm : m <= n) : Beg ls l p m k := by
 obtain ⟨h1, h2, h3⟩ := h
 refine ⟨h1, by omega, ?_⟩
 rw [h2, h3]
 have := vb_head l p m (n - m)
 rwa [show m + (n - m) = n by omega] at this
theorem hit_only {ls : List Nat} {l : List Bool} {p n k m : Nat} (h : Hit ls l p n k) (hm : m < n) (k' : Nat) : ¬ Hit ls l p m k' := by
 intro h'
 obtain ⟨g1, g2, g3⟩ := h'
 have hb := hit_beg h m (by omega)
 obtain ⟨h1, h2, h3⟩ := h
 have := apart_long ls k' k g1 h1 (by omega)
 rw [g2, hb.2.2, g3] at this
 omega
theorem rd_hit {ls : List Nat} {l : List Bool} {p n k : Nat} (h : Hit ls l p n k) (hn : 0 < n) (hp : p + n <= l.length) : Rd ls l p 0 (sy ls k, p + n, 0) := by
 have h15 : n <= 15 := by have := (sy_mem ls k h.1).2.2; have := h.2.1; omega
 have key : ∀ d j, j + d + 1 = n -> Rd ls l p j (sy ls k, p + n, 0) := by
  intro d
  induction d with
  | zero =>
   intro j hj
   have e : n = j + 1 := by omega
   subst e
   exact Rd.hit j k (by omega) (by omega) h
  | succ d ih =>
   intro j hj
   exact Rd.next j k _ (by omega) (by omega) (hit_only h (by omega)) (hit_beg h (j + 1) (by omega)) (ih (j + 1) (by omega))
 exact key (n - 1) 0 (by omega)
end Hf
end Go.Proofs.YtckbhciehmokdaaGreatDoor
namespace Go.Proofs.YtckbhciehmokdaaGreatDoor
set_option maxRecDepth 100000
set_option maxHeartbeats 8000000
open Go.RowKit
theorem with_any (s : Value) (l : List Bool) (b : Bool) (base N : Nat) (w : World) (hr : Row w base s l) (hb : base <= w.heap.size) (hl : Hid (N = l.length)) (hN : N <= 1125899906842000) :
  Calls Tryz.prog 69 #[.agg #[s, .int .i64 (N : Int)], .int .i64 (b.toNat : Int)] w (WithPost w base s (l ++ [b])) := by
 by_cases h0 : N % 8 = 0
 ·exact with_new s l b base N w hr hb hl hN (by rw [beq_iff_eq]; omega)
 ·have hl' := hl.out
  rcases hr.2 with ⟨_, h⟩ | ⟨g, cap, _, rfl, _⟩
  ·omega
  ·exact with_mid g _ cap l b base N w hr hb hl hN (by rw [beq_eq_false_iff_ne]; omega)
theorem own_weaken {w : World} {base base' : Nat} {e : TypeId} {size : Nat} {v : Value} {n : Nat} {xs : List Value} (h : w.ownsRow base e size v n xs) (hb : base' <= base) : w.ownsRow base' e size v n xs := by
 refine ⟨h.1, ?_⟩
 rcases h.2 with h2 | ⟨g, cap, cur, hv, hg, r⟩
 ·exact Or.inl h2
 ·exact Or.inr ⟨g, cap, cur, hv, by omega, r⟩
end Go.Proofs.YtckbhciehmokdaaGreatDoor
namespace Go.Proofs.YtckbhciehmokdaaGreatDoor
set_option maxRecDepth 100000
set_option maxHeartbeats 8000000
open Go.RowKit
theorem Row.shape {w : World} {base : Nat} {s : Value} {l : List Bool} (h : Row w base s l) : ∃ a n cap, s = .slice a n cap := by
 rcases h.2 with ⟨rfl, _⟩ | ⟨g, cap, cur, rfl, _⟩
 ·exact ⟨_, _, _, rfl⟩
 ·exact ⟨_, _, _, rfl⟩
theorem Row.weaken {w : World} {base base' : Nat} {s : Value} {l : List Bool} (h : Row w base s l) (hb : base' <= base) : Row w base' s l := own_weaken h hb
theorem Row.ne {w : World} {base b : Nat} {s : Value} {l : List Bool} {cs : Array Value} {fr : Nat × Nat} (h : Row w base s l) (hb : Has w b (.cells cs 64 fr)) : s.ownBlock ≠ some b := own_ne h hb
abbrev rowVar (a : Option Addr) (n cap : Nat) (N : Int) : Obj := .cells #[.slice a n cap, .int .i64 N] 64 (0, 0)
end Go.Proofs.YtckbhciehmokdaaGreatDoor
namespace Go.Proofs.YtckbhciehmokdaaGreatDoor
set_option maxRecDepth 100000
set_option maxHeartbeats 8000000
open Go.RowKit
def strB (bs : List Nat) : ByteArray := strOfNums (bs.map fun (x : Nat) => (x : Int))
theorem run_string {P : Program} (w : World) (src dst e : TypeId) (hs : P.underlying src = some (.slice e)) (he : P.underlying e = some (.int .u8)) (hd : P.underlying dst = some .string) (a : Option Addr) (len cap : Nat) (bs : List Nat) (h : Sl w (.slice a len cap) bs) :
  (convert src dst (.slice a len cap)).run P w = .ok (.string (strB bs)) w := by
 obtain ⟨a', len', cap', he', h1, h2, h3, h4, h5⟩ := h
 injection he' with e1 e2 e3
 subst e1 e2 e3
 by_cases h0 : 0 < len
 ·obtain ⟨b, off, rfl, hlt, hc⟩ := h5 h0
  refine run_convert_bytes_arg w src e hs he b off len cap (bs.map fun (x : Nat) => (x : Int)) (by rw [List.length_map, h1]) (fun i hi => ?_) dst hd
  rw [hc i hi]
  simp [List.getD, List.getElem?_eq_getElem (show i < bs.length by omega)]
 ·obtain rfl : len = 0 := by omega
  obtain rfl : bs = [] := List.eq_nil_of_length_eq_zero h1.symm
  cases a with
  | none => exact run_convert_bytes_nil w src e hs he 0 cap dst hd
  | some p =>
   have hl : (loadCells p 0).run P w = .ok (([] : List Int).map (Value.int .u8)).toArray w := by
    have := run_loadCells_list (P := P) w p [] (fun j v hj => by simp at hj)
    simpa using this
   rw [run_convert_bytes_string w src dst e _ 0 cap hs he hd, run_bytesToString w p 0 cap [] hl]
   rfl
theorem Sl.has {w : World} {g : Nat} {bs : List Nat} (h : Has w g (bytesObj bs)) (h8 : ∀ x ∈ bs, x < 256) (hl : bs.length <= 281474976710656) (m cap : Nat) (hm : m = bs.length) : Sl w (.slice (some ⟨g, 0, none⟩) m cap) bs := by
 refine ⟨_, m, cap, rfl, hm, by omega, fun h => by simp at h, h8, fun h0 => ⟨g, 0, rfl, h.lt, fun i hi => ?_⟩⟩
 rw [Nat.zero_add, h.cell]
 have : i < bs.length := by omega
 simp [vb, this]
end Go.Proofs.YtckbhciehmokdaaGreatDoor
namespace Go.Proofs.YtckbhciehmokdaaGreatDoor
set_option maxRecDepth 100000
set_option maxHeartbeats 8000000
open Go.RowKit
def Good (ls : List Nat) : Prop := 0 < (Hf.ordl ls).length /\ (Hf.ordl ls).length <= 288 /\ (Hf.pf ls (Hf.ordl ls).length = 32768 ∨ ((Hf.ordl ls).length = 1 /\ Hf.ln ls (Hf.sy ls 0) = 1))
def RdPost (w : World) (ls : List Nat) (l : List Bool) (p : Nat) (e : Ending) (w' : World) : Prop :=
 ∃ r : Nat × Nat × Int, e = .returned (.tuple #[.int .i64 (r.1 : Int), .int .i64 (r.2.1 : Int), .int .i64 r.2.2]) /\ Hf.Rd ls l p 0 r /\ Below w.heap.size w w'
end Go.Proofs.YtckbhciehmokdaaGreatDoor
namespace Go.Proofs.YtckbhciehmokdaaGreatDoor
set_option maxRecDepth 100000
set_option maxHeartbeats 8000000
open Go.RowKit
structure Tb (w : World) (T g capg : Nat) (ls : List Nat) : Prop where
 counts : Rw w T 16 (cnt (usedTo ls ls.length))
 slice : w.cell? ⟨T, 16, none⟩ = some (.slice (some ⟨g, 0, none⟩) (Hf.ordl ls).length capg)
 cap : (Hf.ordl ls).length <= capg
 syms : Rw w g (Hf.ordl ls).length (fun i => (Hf.ordl ls)[i]?.getD 0)
theorem rw_below {B : Nat} {w w' : World} {g n : Nat} {d : Nat -> Nat} (h : Rw w g n d) (hg : g < B) (hb : Below B w w') : Rw w' g n d := h.same (hb.block g hg) (Nat.lt_of_lt_of_le h.lt hb.size)
theorem Tb.below {w w' : World} {T g capg : Nat} {ls : List Nat} (h : Tb w T g capg ls) (hb : Below w.heap.size w w') : Tb w' T g capg ls :=
 ⟨rw_below h.counts h.counts.lt hb, by rw [hb.cell (p := ⟨T, 16, none⟩) h.counts.lt]; exact h.slice, h.cap, rw_below h.syms h.syms.lt hb⟩
end Go.Proofs.YtckbhciehmokdaaGreatDoor
namespace Go.Proofs.YtckbhciehmokdaaGreatDoor
set_option maxRecDepth 100000
set_option maxHeartbeats 8000000
open Go.RowKit
theorem ext_nil (l : List Bool) (f : Nat -> Bool) (a : Option Addr) (len cap N k m : Nat) (w : World)
  (hs : Sl w (.slice a len cap) (Bs.pack l)) (hl : Hid (N = l.length)) (hN : N <= 1125899906842624) (hk : k <= 1125899906842624) (hm : Hid ((N + k + 7) / 8 = m)) (hk0 : k <= 0) :
  Calls Tryz.prog 91 #[.agg #[.slice a len cap, .int .i64 N], .int .i64 k, .nilFunc] w (ExtPost w l f k m) := by
 have hmk := run_make_row' (P := Tryz.prog) 22 5 (.int .u8 0) 1 Tryz.underlying22 Tryz.infoU8 rfl .i64 .i64 m (by have := hm.out; omega) (by have := hm.out; omega)
 have hsz : Hid ((((N : Int) + (k : Int)) / 8 + (((N : Int) + (k : Int)) % 8 + 7) / 8) = (m : Int)) := by
  show _ = _
  rw [<- hm.out]; omega
 have hA : 0 <= (N : Int) + (k : Int) := by omega
 have hB : (N : Int) + (k : Int) <= 9223372036854775807 := by omega
 have hs' := LH hs
 clear hs
 go_enter Tryz.func91, Tryz.ntmps91
 go_upto_region 1 with fail
 go_cut [7] (fun s7 wx => Laid ((w.alloc (.cells #[.slice a len cap, .int .i64 N] 64)).alloc (.cells #[.slice none 0 0, .int .i64 0] 64)) wx s7 m N)
 case first =>
  have hwr : IntKind.i64.wrap ((N : Int) + (k : Int)) = (N : Int) + (k : Int) := IntWalk.i64_in _ (by omega)
  clear hs' hl
  go_region_held3 (fun wx => wx.cell? ⟨w.heap.size, 1, none⟩ = some (.int .i64 (N : Int))) (go_keep) (first | (go_at_call 113; go_fit (size_is ((N : Int) + (k : Int)) (m : Int) hA hB hsz _); rintro e w' ⟨rfl, rfl⟩))
  all_goals (go_wp2_with fail; go_meet; first | exact Laid.one _ m N (w.heap.size + 1 + 1) (by simp) | exact Laid.two _ m N (w.heap.size + 1 + 1) (by simp))
 case rest =>
  clear hmk hsz hA hB
  obtain ⟨R, g, rfl, hRB, hgB, hne, hsz2, hR, hg, hbox, hres, hb1⟩ := hcut.facts
  clear hcut
  have c0 := cell_of_block hbox 0
  have c1 := cell_of_block hR 0
  simp only [List.getElem?_toArray, List.getElem?_cons_zero] at c0 c1
  have hs2 : Sl wc (.slice a len cap) (Bs.pack l) := hs'.out.later hb1
  have hlen : len = (N + 7) / 8 := by rw [hs2.len.1, Bs.pack_length, hl.out]
  have hmN : (N + 7) / 8 <= m := by have := hm.out; omega
  have hn : (vb (Bs.pack l)).length = Nat.min len m := by
   rw [vb_length, Bs.pack_length, <- hl.out]
   show _ = min len m
   omega
  have hpos : 0 < (vb (Bs.pack l)).length -> some (⟨g, 0, none⟩ : Addr) = some ⟨g, 0, none⟩ /\ ∃ ad, a = some ad /\ ∀ j v, (vb (Bs.pack l))[j]? = some v -> wc.cell? (ad.add j) = some v := fun h =>
   ⟨rfl, hs2.cells (by rw [vb_length, Bs.pack_length, <- hl.out] at h; omega)⟩
  have hfit : 0 + (vb (Bs.pack l)).length <= (vb (Bs.packTo m [])).length := by
   rw [vb_length, vb_length, Bs.pack_length, Bs.packTo_length, <- hl.out]; omega
  have H1 := LH hg
  have H2 := LH hR
  have H3 := LH hbox
  have H4 := LH hn
  have H5 := LH hpos
  have H6 := LH hfit
  have H7 := LH hlen
  have H8 := LH hs2
  have H9 := LH hres
  have H10 := LH hb1
  clear hg hR hbox hn hpos hfit hlen hs2 hres hb1
  go_wp2_with (with_reducible refine wpList_copy_only rfl (.tmp 20) (.tmp 22) 22 22 rfl 5 Tryz.underlying22 (by kernel_rfl) (some ⟨g, 0, none⟩) a m m len cap rfl rfl g 0 (vb (Bs.packTo m [])) 5 H1.out (vb (Bs.pack l)) H4.out H5.out H6.out (oneCell_vb _) ?_; intro w2 hg2 ho2)
  have HR2 : Hid (w2.heap[R]? = some (rowObj g m (more l f 0).length)) := by
   show _ = _
   rw [ho2.block R (lt_of_block H2.out) hne, more_zero, <- hl.out]; exact H2.out
  have HG2 : Hid (w2.heap[g]? = some (bytesObj (Bs.packTo m (more l f 0)))) := by
   show _ = _
   rw [more_zero]
   have e := splice_zero m l (by rw [<- hl.out]; exact hmN)
   have h := hg2.out
   rw [e] at h
   exact h
  have HB2 : Hid (Below w.heap.size w w2) := ho2.below H10.out (by omega) (by omega)
  have HE2 : Hid (w2.heap[w.heap.size + 1]? = some (.cells #[.slice none 0 0, .int .i64 0] 64 (0, 0))) := by
   show _ = _
   rw [ho2.block _ (by omega) (by omega)]; exact H9.out
  clear hg2 ho2 H1 H2 H3 H4 H5 H6 H7 H8 H9 H10 c0 c1
  go_loopw [26] (fun s26 wr => ∃ i : Nat, i <= k /\ s26 = .int .i64 i /\ Hid (wr.heap[R]? = some (rowObj g m (more l f i).length)) /\ Hid (wr.heap[g]? = some (bytesObj (Bs.packTo m (more l f i)))) /\ Hid (Below (w.heap.size + 2) w2 wr))
   (fun s _ => k - (intOf s).toNat)
  case atStart => exact ⟨0, Nat.zero_le _, rfl, HR2, HG2, Below.refl _ _⟩
  case round =>
   obtain ⟨i, hi, rfl, KR, KG, KB⟩ := hrel
   by_cases hlt : i < k
   ·omega
   ·obtain rfl : i = k := by omega
    have c0 : wr.cell? ⟨R, 0, none⟩ = some (.slice (some ⟨g, 0, none⟩) m m) := by rw [cell_of_block KR.out]; rfl
    have c1 : wr.cell? ⟨R, 1, none⟩ = some (.int .i64 ((more l f i).length : Int)) := by rw [cell_of_block KR.out]; rfl
    have KE : wr.heap[w.heap.size + 1]? = some (.cells #[.slice none 0 0, .int .i64 0] 64 (0, 0)) := (KB.out.block _ (by omega)).trans HE2.out
    have f0 := free_of_block KE 0
    have f1 := free_of_block KE 1
    have e0 : wr.cell? ⟨w.heap.size + 1, 0, none⟩ = some (.slice none 0 0) := by rw [cell_of_block KE]; rfl
    have e1 : wr.cell? ⟨w.heap.size + 1, 1, none⟩ = some (.int .i64 0) := by rw [cell_of_block KE]; rfl
    have KE' := LH KE
    clear KE
    go_wp2
    refine bodyPost_ret (v := .agg #[.slice (some ⟨g, 0, none⟩) m m, .int .i64 ((more l f i).length : Int)]) (by simp [results, Tryz.results91, go_sem, e0, e1]) rfl ⟨g, rfl, by omega, ?_, ?_⟩
    ·rw [Below.heap_setCell _ _ _ _ (by show g ≠ w.heap.size + 1; omega), Below.heap_setCell _ _ _ _ (by show g ≠ w.heap.size + 1; omega)]
     exact KG.out
    ·exact ((HB2.out.trans (KB.out.mono (by omega))).setCell (by show w.heap.size <= w.heap.size + 1; omega) _).setCell (by show w.heap.size <= w.heap.size + 1; omega) _
theorem ext_nil_is (l : List Bool) (q : Int) (a : Option Addr) (len cap N : Nat) (w : World) (hs : Sl w (.slice a len cap) (Bs.pack l)) (hl : Hid (N = l.length)) (hN : N <= 1125899906842624) (hq : Hid (q = (N : Int))) :
  Calls Tryz.prog 91 #[.agg #[.slice a len cap, .int .i64 q], .int .i64 0, .nilFunc] w (ExtPost w l (fun _ => false) 0 ((N + 0 + 7) / 8)) := by
 rw [hq.out]
 exact ext_nil l (fun _ => false) a len cap N 0 ((N + 0 + 7) / 8) w hs hl hN (by omega) rfl (by omega)
def OneRow (w : World) (l : List Bool) (e : Ending) (w' : World) : Prop :=
 ∃ g m : Nat, e = .returned (.agg #[.slice (some ⟨g, 0, none⟩) m m, .int .i64 (l.length : Int)]) /\ m = (l.length + 7) / 8 /\ w.heap.size <= g /\ Has w' g (bytesObj (Bs.pack l)) /\ Below w.heap.size w w'
theorem ExtPost.pack {w w' : World} {l : List Bool} {f : Nat -> Bool} {k m : Nat} {e : Ending} (h : ExtPost w l f k m e w') (hm : m = (l.length + k + 7) / 8) : OneRow w (more l f k) e w' := by
 obtain ⟨g, he, hg, hh, hb⟩ := h
 refine ⟨g, m, he, by rw [hm, more_length], hg, ?_, hb⟩
 have e2 : Bs.pack (more l f k) = Bs.packTo m (more l f k) := by unfold Bs.pack; rw [more_length, hm]
 rw [e2]
 exact hh
theorem of_any (a : Option Addr) (len cap : Nat) (l : List Bool) (w : World) (hs : Sl w (.slice a len cap) (Bs.pack l)) (hl : Hid (8 * len = l.length)) (hlen : len <= 140737488351232) :
  Calls Tryz.prog 49 #[.slice a len cap] w (OneRow w l) := by
 have HS := LH hs
 clear hs
 have hq : Hid ((8 : Int) * (len : Int) = ((8 * len : Nat) : Int)) := by show _ = _; omega
 have hk1 := Has.new w (.cells #[.slice none 0 0, .int .i64 0] 64)
 go_enter Tryz.func49, Tryz.ntmps49
 go_wp2_with fail
 refine (ext_nil_is l _ a len cap (8 * len) _ (HS.out.later (below2 _ _ _)) hl (by omega) hq).mono ?_
 rintro e w1 h1
 obtain ⟨g, m, rfl, hm, hg, hh, hb⟩ := h1.pack (by rw [<- hl.out])
 obtain ⟨k1, k2, kb, ks⟩ := facts2 hb
 have HH := LH hh
 have HM := LH hm
 have hg' : w.heap.size + 2 <= g := by simpa using hg
 clear hb hh h1 hg hm hk1
 obtain ⟨c0, c1, f0, f1⟩ := k1.two
 go_wp2
 refine bodyPost_ret (v := .agg #[.slice (some ⟨g, 0, none⟩) m m, .int .i64 ((more l (fun _ => false) 0).length : Int)]) (by simp [results, Tryz.results49, go_sem, c0, c1]) rfl ⟨g, m, ?_, ?_, by omega, ?_, set2_below kb _ (Nat.le_refl _) _ _⟩
 ·rw [more_zero]
 ·rw [HM.out, more_zero]
 ·refine Has.set (Has.set ?_ (by show g ≠ w.heap.size; omega) _) (by show g ≠ w.heap.size; omega) _
  rw [<- more_zero l (fun _ => false)]
  exact HH.out
end Go.Proofs.YtckbhciehmokdaaGreatDoor
namespace Go.Proofs.YtckbhciehmokdaaGreatDoor.Ls
set_option maxRecDepth 100000
set_option maxHeartbeats 8000000
namespace Lm
inductive Tr where
 | leaf (w s : Nat)
 | node (a b : Tr)
def Tr.wt : Tr -> Nat
 | .leaf w _ => w
 | .node a b => a.wt + b.wt
def Tr.cnt (s : Nat) : Tr -> Nat
 | .leaf _ y => if y = s then 1 else 0
 | .node a b => a.cnt s + b.cnt s
def usd (fs : List Nat) : Nat -> List (Nat × Nat)
 | 0 => []
 | k + 1 => usd fs k ++ (if fs[k]?.getD 0 = 0 then [] else [(fs[k]?.getD 0, k)])
theorem usd_mem (fs : List Nat) (k : Nat) (p : Nat × Nat) : p ∈ usd fs k ↔ p.2 < k /\ p.1 = fs[p.2]?.getD 0 /\ p.1 ≠ 0 := by
 induction k with
 | zero => simp [usd]
 | succ k ih =>
  simp only [usd, List.mem_append, ih]
  by_cases h : fs[k]?.getD 0 = 0
  ·rw [if_pos h]
   constructor
   ·rintro (⟨h1, h2, h3⟩ | h4)
    ·exact ⟨by omega, h2, h3⟩
    ·cases h4
   ·rintro ⟨h1, h2, h3⟩
    by_cases e : p.2 = k
    ·rw [e, h] at h2; exact (h3 h2).elim
    ·exact .inl ⟨by omega, h2, h3⟩
  ·rw [if_neg h]
   constructor
   ·rintro (⟨h1, h2, h3⟩ | h4)
    ·exact ⟨by omega, h2, h3⟩
    ·rw [List.mem_singleton] at h4; subst h4; exact ⟨by simp, rfl, h⟩
   ·rintro ⟨h1, h2, h3⟩
    by_cases e : p.2 = k
    ·refine .inr ?_; rw [List.mem_singleton]; rw [e] at h2; exact Prod.ext h2 e
    ·exact .inl ⟨by omega, h2, h3⟩
theorem usd_rise (fs : List Nat) (k : Nat) : (usd fs k).Pairwise fun p q => p.2 < q.2 := by
 induction k with
 | zero => exact List.Pairwise.nil
 | succ k ih =>
  simp only [usd]
  refine List.pairwise_append.2 ⟨ih, ?_, fun p hp q hq => ?_⟩
  ·split
   ·exact List.Pairwise.nil
   ·exact List.pairwise_singleton _ _
  ·have h1 := ((usd_mem fs k p).1 hp).1
   split at hq
   ·cases hq
   ·rw [List.mem_singleton] at hq; subst hq; exact h1
theorem usd_length (fs : List Nat) (k : Nat) : (usd fs k).length <= k := by
 induction k with
 | zero => simp [usd]
 | succ k ih => simp only [usd, List.length_append]; split <;> simp <;> omega
def srt (fs : List Nat) : List (Nat × Nat) := isrt Prod.fst (usd fs fs.length)
def Tr.of (p : Nat × Nat) : Tr := .leaf p.1 p.2
def sgl (fs : List Nat) : List Tr := (srt fs).map Tr.of
def lgt (ts : List Tr) (M : Nat) : List Tr := if ts.length < 2 then ts else (lvl Tr.wt .node ts (M - 1)).take (2 * ts.length - 2)
def len (fs : List Nat) (M s : Nat) : Nat := sm (Tr.cnt s) (lgt (sgl fs) M)
theorem srt_perm (fs : List Nat) : (srt fs).Perm (usd fs fs.length) := isrt_perm _ _
theorem srt_up (fs : List Nat) : Up Prod.fst (srt fs) := isrt_up _ _
theorem srt_apart (fs : List Nat) : (srt fs).Pairwise fun p q => p.2 ≠ q.2 :=
 ((srt_perm fs).symm.pairwise_iff fun h => Ne.symm h).1 ((usd_rise fs fs.length).imp fun h => Nat.ne_of_lt h)
theorem sgl_up (fs : List Nat) : Up Tr.wt (sgl fs) := by
 unfold sgl Up
 rw [List.pairwise_map]
 exact srt_up fs
theorem sgl_length (fs : List Nat) : (sgl fs).length = (srt fs).length := by simp [sgl]
theorem srt_length (fs : List Nat) : (srt fs).length = (usd fs fs.length).length := (srt_perm fs).length_eq
theorem cnt_take (Q : List (Nat × Nat)) : ∀ (_ : Q.Pairwise fun p q => p.2 ≠ q.2) (r t : Nat) (p : Nat × Nat), Q[r]? = some p -> sm (Tr.cnt p.2) ((Q.map Tr.of).take t) = if r < t then 1 else 0 := by
 induction Q with
 | nil => intro _ r t p h; simp at h
 | cons q Q ih =>
  intro ha r t p h
  have h1 := List.pairwise_cons.1 ha
  cases t with
  | zero => simp [sm]
  | succ t =>
   rw [List.map_cons, List.take_succ_cons, sm_cons]
   cases r with
   | zero =>
    simp at h; subst h
    have : sm (Tr.cnt q.2) ((Q.map Tr.of).take t) = 0 := by
     rw [<- List.map_take, sm_map]
     have : sm (fun x => Tr.cnt q.2 (Tr.of x)) (Q.take t) = sm (fun _ => 0) (Q.take t) := sm_congr fun x hx => by
      have hne := h1.1 x (List.mem_of_mem_take hx)
      simp only [Tr.of, Tr.cnt]
      rw [if_neg fun e => hne e.symm]
     rw [this]
     have := sm_mul (fun _ : Nat × Nat => 0) 0 (Q.take t)
     simpa using this
    rw [this]
    simp [Tr.of, Tr.cnt]
   | succ r =>
    rw [List.getElem?_cons_succ] at h
    rw [ih h1.2 r t p h]
    have hne := h1.1 p (List.mem_of_getElem? h)
    simp only [Tr.of, Tr.cnt]
    rw [if_neg hne]
    by_cases e : r < t
    ·rw [if_pos e, if_pos (by omega)]
    ·rw [if_neg e, if_neg (by omega)]
def cr (l : List Nat) (r : Nat) : Nat := sm (fun t => if r < t then 1 else 0) l
theorem cr_cons (s : Nat) (l : List Nat) (r : Nat) : cr (s :: l) r = (if r < s then 1 else 0) + cr l r := sm_cons _ _ _
theorem cr_le (r : Nat) : ∀ l : List Nat, cr l r <= l.length
 | [] => Nat.le_refl _
 | s :: l => by have := cr_le r l; rw [cr_cons, List.length_cons]; split <;> omega
theorem cr_anti {r q : Nat} (h : r <= q) : ∀ l : List Nat, cr l q <= cr l r
 | [] => Nat.le_refl _
 | s :: l => by have := cr_anti h l; rw [cr_cons, cr_cons]; split <;> split <;> omega
theorem cr_zero (r : Nat) : ∀ l : List Nat, (∀ s ∈ l, s <= r) -> cr l r = 0
 | [], _ => rfl
 | s :: l, h => by rw [cr_cons, if_neg (by have := h s (by simp); omega), cr_zero r l fun x hx => h x (by simp [hx])]
def wr (r : Nat) : List Nat -> Nat
 | [] => 0
 | s :: l => (if r < s then 2 ^ l.length else 0) + wr r l
theorem wr_zero (r : Nat) : ∀ l : List Nat, (∀ s ∈ l, s <= r) -> wr r l = 0
 | [], _ => rfl
 | s :: l, h => by rw [wr, if_neg (by have := h s (by simp); omega), wr_zero r l fun x hx => h x (by simp [hx])]
theorem wr_cr (r : Nat) : ∀ l : List Nat, l.Pairwise (fun x y => y <= x) -> wr r l + 2 ^ (l.length - cr l r) = 2 ^ l.length
 | [], _ => rfl
 | s :: l, h => by
  have h1 := List.pairwise_cons.1 h
  by_cases hs : r < s
  ·have ih := wr_cr r l h1.2
   have := cr_le r l
   rw [wr, cr_cons, if_pos hs, if_pos hs, List.length_cons, show l.length + 1 - (1 + cr l r) = l.length - cr l r by omega, Nat.pow_succ]
   omega
  ·have hz : ∀ x ∈ l, x <= r := fun x hx => by have := h1.1 x hx; omega
   rw [wr, cr_cons, if_neg hs, if_neg hs, wr_zero r l hz, cr_zero r l hz]; simp
theorem wr_sum (n : Nat) : ∀ l : List Nat, (∀ s ∈ l, s <= n) -> sumTo (fun r => wr r l) n = wsum l
 | [], _ => by simp [wr, wsum, sumTo_const]
 | s :: l, h => by
  have ih := wr_sum n l fun x hx => h x (by simp [hx])
  have hs := h s (by simp)
  simp only [wr, wsum]
  rw [sumTo_add, ih]
  congr 1
  have : ∀ t, sumTo (fun r => if r < s then 2 ^ l.length else 0) t = min t s * 2 ^ l.length := by
   intro t
   induction t with
   | zero => simp [sumTo]
   | succ t ih =>
    simp only [sumTo, ih]
    by_cases e : t < s
    ·rw [if_pos e, Nat.min_eq_left (by omega), Nat.min_eq_left (by omega), Nat.succ_mul]
    ·rw [if_neg e, Nat.min_eq_right (by omega), Nat.min_eq_right (by omega), Nat.add_zero]
  rw [this, Nat.min_eq_right hs]
theorem sm_index {α : Type} (c : α -> Nat) (g : Nat -> Nat) (Q : List α) (h : ∀ r p, Q[r]? = some p -> c p = g r) : ∀ t, t <= Q.length -> sm c (Q.take t) = sumTo g t := by
 intro t
 induction t with
 | zero => intro _; simp [sm, sumTo]
 | succ t ih =>
  intro ht
  rw [List.take_add_one, sm_append, ih (by omega), sumTo, List.getElem?_eq_getElem (by omega)]
  simp only [Option.toList, sm_cons, sm_nil]
  rw [h t _ (List.getElem?_eq_getElem (by omega))]; rfl
theorem sm_whole {α : Type} (c : α -> Nat) (g : Nat -> Nat) (Q : List α) (h : ∀ r p, Q[r]? = some p -> c p = g r) : sm c Q = sumTo g Q.length := by
 have := sm_index c g Q h Q.length (Nat.le_refl _)
 rwa [List.take_length] at this
section Two
variable (fs : List Nat) (M : Nat)
def buy : List Nat := sel Tr.wt .node (sgl fs) (M - 1) (2 * (sgl fs).length - 2)
variable (hM : 1 <= M) (hn : 2 <= (srt fs).length) (hf : (srt fs).length <= 2 ^ M)
include hM hn hf
theorem enough : 2 * (sgl fs).length - 2 <= (lvl Tr.wt .node (sgl fs) (M - 1)).length :=
 lvl_enough _ _ _ (by rw [sgl_length]; exact hn) _ (by rw [sgl_length, show M - 1 + 1 = M by omega]; exact hf)
omit hn hf in
theorem buy_length : (buy fs M).length = M := by unfold buy; rw [sel_length]; omega
theorem buy_down : (buy fs M).Pairwise (fun x y => y <= x) := sel_down _ _ (fun _ _ => rfl) _ (sgl_up fs) _ _ (enough fs M hM hn hf)
theorem buy_head : ∃ l, buy fs M = (srt fs).length :: l := by
 obtain ⟨l, h⟩ := sel_top Tr.wt .node (fun _ _ => rfl) (sgl fs) (sgl_up fs) (by rw [sgl_length]; exact hn) (M - 1) (enough fs M hM hn hf)
 exact ⟨l, by unfold buy; rw [h, sgl_length]⟩
theorem buy_le : ∀ s ∈ buy fs M, s <= (srt fs).length := by
 obtain ⟨l, h⟩ := buy_head fs M hM hn hf
 have hd := buy_down fs M hM hn hf
 rw [h] at hd ⊢
 intro s hs
 rcases List.mem_cons.1 hs with rfl | hs
 ·exact Nat.le_refl _
 ·exact (List.pairwise_cons.1 hd).1 s hs
theorem lgt_sum (c : Tr -> Nat) (hc : ∀ x y, c (.node x y) = c x + c y) : sm c (lgt (sgl fs) M) = sm (fun s => sm c ((sgl fs).take s)) (buy fs M) := by
 unfold lgt
 rw [if_neg (by rw [sgl_length]; omega)]
 exact sel_sum _ _ _ c hc _ _ (enough fs M hM hn hf)
theorem len_cr (r : Nat) (p : Nat × Nat) (h : (srt fs)[r]? = some p) : len fs M p.2 = cr (buy fs M) r := by
 unfold len
 rw [lgt_sum fs M hM hn hf (Tr.cnt p.2) fun _ _ => rfl]
 unfold cr
 refine sm_congr fun t _ => ?_
 exact cnt_take (srt fs) (srt_apart fs) r t p h
theorem len_two (p : Nat × Nat) (h : p ∈ srt fs) : 1 <= len fs M p.2 /\ len fs M p.2 <= M := by
 obtain ⟨r, hr⟩ := List.getElem?_of_mem h
 rw [len_cr fs M hM hn hf r p hr]
 have h1 := cr_le r (buy fs M)
 rw [buy_length fs M hM] at h1
 refine ⟨?_, h1⟩
 obtain ⟨l, e⟩ := buy_head fs M hM hn hf
 have hrl := (List.getElem?_eq_some_iff.1 hr).1
 rw [e, cr_cons, if_pos hrl]; omega
theorem kraft : sm (fun p => 2 ^ (M - len fs M p.2)) (srt fs) = 2 ^ M := by
 have h1 := sm_whole (fun p => 2 ^ (M - len fs M p.2)) (fun r => 2 ^ (M - cr (buy fs M) r)) (srt fs) (fun r p h => by rw [len_cr fs M hM hn hf r p h])
 have h2 : sumTo (fun r => wr r (buy fs M) + 2 ^ (M - cr (buy fs M) r)) (srt fs).length = (srt fs).length * 2 ^ M := by
  rw [<- sumTo_const]
  refine sumTo_congr fun r _ => ?_
  have := wr_cr r (buy fs M) (buy_down fs M hM hn hf)
  rwa [buy_length fs M hM] at this
 rw [sumTo_add, wr_sum _ _ (buy_le fs M hM hn hf)] at h2
 have h3 : wsum (buy fs M) = (2 * (srt fs).length - 2) * 2 ^ (M - 1) := by unfold buy; rw [sel_wsum, sgl_length]
 rw [h3] at h2
 rw [h1]
 have e : 2 ^ M = 2 * 2 ^ (M - 1) := by rw [Nat.mul_comm, <- Nat.pow_succ]; congr 1; omega
 have e2 : (2 * (srt fs).length - 2) * 2 ^ (M - 1) = (srt fs).length * 2 ^ M - 2 ^ M := by
  rw [Nat.sub_mul, Nat.mul_comm 2, Nat.mul_assoc, <- e]
 have e3 : 2 ^ M <= (srt fs).length * 2 ^ M := Nat.le_mul_of_pos_left _ (by omega)
 omega
theorem order (p q : Nat × Nat) (hp : p ∈ srt fs) (hq : q ∈ srt fs) (h : q.1 < p.1) : len fs M p.2 <= len fs M q.2 := by
 obtain ⟨r, hr⟩ := List.getElem?_of_mem hp
 obtain ⟨s, hs⟩ := List.getElem?_of_mem hq
 rw [len_cr fs M hM hn hf r p hr, len_cr fs M hM hn hf s q hs]
 refine cr_anti ?_ _
 refine Nat.le_of_not_lt fun hlt => ?_
 obtain ⟨g1, rfl⟩ := List.getElem?_eq_some_iff.1 hr
 obtain ⟨g2, rfl⟩ := List.getElem?_eq_some_iff.1 hs
 have := List.pairwise_iff_getElem.1 (srt_up fs) r s g1 g2 hlt
 omega
end Two
end Lm
end Go.Proofs.YtckbhciehmokdaaGreatDoor.Ls
namespace Go.Proofs.YtckbhciehmokdaaGreatDoor
set_option maxRecDepth 100000
set_option maxHeartbeats 8000000
namespace If
open Hd (num rd head)
theorem copy_facts {l : List Bool} {dist : List Nat} {most s p : Nat} {out : List Nat} (h : (copy l dist most s p out).2.2 = 0) : p < (copy l dist most s p out).2.1 /\ (copy l dist most s p out).2.1 <= l.length := by
 unfold copy at h ⊢
 by_cases h1 : 286 <= s
 ·rw [if_pos h1] at h; simp at h
 rw [if_neg h1] at h ⊢
 by_cases h2 : l.length < p + Sy.at' Sy.lb (s - 257)
 ·rw [if_pos h2] at h; simp at h
 rw [if_neg h2] at h ⊢
 by_cases h3 : ∀ x ∈ dist, x = 0
 ·rw [if_pos h3] at h; simp at h
 rw [if_neg h3] at h ⊢
 generalize hr : rd dist l (p + Sy.at' Sy.lb (s - 257)) = r at h ⊢
 obtain ⟨y, q, c⟩ := r
 simp only at h ⊢
 by_cases h4 : c ≠ 0
 ·rw [if_pos h4] at h; exact absurd h h4
 rw [if_neg h4] at h ⊢
 have hl := Hd.rd_lt (by omega) hr
 have hc : c = 0 := by simpa using h4
 by_cases h5 : 30 <= y
 ·rw [if_pos h5] at h; simp at h
 rw [if_neg h5] at h ⊢
 by_cases h6 : l.length < q + Sy.at' Sy.db y
 ·rw [if_pos h6] at h; simp at h
 rw [if_neg h6] at h ⊢
 by_cases h7 : out.length < Sy.at' Sy.df y + num l q (Sy.at' Sy.db y)
 ·rw [if_pos h7] at h; simp at h
 rw [if_neg h7] at h ⊢
 by_cases h8 : most < out.length + (Sy.at' Sy.lf (s - 257) + num l p (Sy.at' Sy.lb (s - 257)))
 ·rw [if_pos h8] at h; simp at h
 rw [if_neg h8]
 have := (hl.1 hc)
 simp only
 omega
theorem runs_facts {ls : List Nat} {l : List Bool} {n : Nat} : ∀ (k : Nat) (acc : List Nat) (p : Nat), p <= l.length -> (Hd.runs ls l n k acc p).2.2 = 0 -> p <= (Hd.runs ls l n k acc p).2.1 /\ (Hd.runs ls l n k acc p).2.1 <= l.length := by
 intro k
 induction k with
 | zero => intro acc p hp _; exact ⟨Nat.le_refl _, hp⟩
 | succ k ih =>
  intro acc p hp h
  simp only [Hd.runs] at h ⊢
  by_cases h1 : n <= acc.length
  ·rw [if_pos h1]; exact ⟨Nat.le_refl _, hp⟩
  rw [if_neg h1] at h ⊢
  generalize hr : rd ls l p = r at h ⊢
  obtain ⟨y, q, c⟩ := r
  simp only at h ⊢
  by_cases h2 : c ≠ 0
  ·rw [if_pos h2] at h; exact absurd h h2
  rw [if_neg h2] at h ⊢
  have hl := (Hd.rd_lt hp hr).1 (by simpa using h2)
  by_cases h3 : l.length < q + Hd.ex y
  ·rw [if_pos h3] at h; simp at h
  rw [if_neg h3] at h ⊢
  generalize Hd.take acc y (num l q (Hd.ex y)) n = t at h ⊢
  by_cases h4 : t.2 ≠ 0
  ·rw [if_pos h4] at h; exact absurd h h4
  rw [if_neg h4] at h ⊢
  have := ih t.1 (q + Hd.ex y) (by omega) h
  omega
theorem head_facts {l : List Bool} {p : Nat} (h : (head l p).2.2.2 = 0) : p + 14 < (head l p).2.2.1 /\ (head l p).2.2.1 <= l.length := by
 by_cases h1 : l.length < p + 10
 ·rw [Hd.head_e1 h1] at h; simp at h
 by_cases h3 : 286 < num l p 5 + 257 ∨ 30 < num l (p + 5) 5 + 1
 ·rw [Hd.head_e3 (l := l) (p := p) (by omega) rfl rfl h3] at h; simp at h
 by_cases h4 : l.length < p + 14
 ·rw [Hd.head_e4 (l := l) (p := p) (by omega) rfl rfl h3 h4] at h; simp at h
 by_cases h5 : l.length < p + 14 + 3 * (num l (p + 10) 4 + 4)
 ·rw [Hd.head_e5 (l := l) (p := p) (by omega) rfl rfl rfl h3 h5] at h; simp at h
 by_cases h6 : newE (Hd.zz (Hd.cl l (p + 14) (num l (p + 10) 4 + 4))) = 0
 ·rw [Hd.head_run (l := l) (p := p) (by omega) rfl rfl rfl rfl h3 (by omega) h6] at h ⊢
  by_cases h7 : (Hd.runs (Hd.cl l (p + 14) (num l (p + 10) 4 + 4)) l (num l p 5 + 257 + (num l (p + 5) 5 + 1)) 400 [] (p + 14 + 3 * (num l (p + 10) 4 + 4))).2.2 ≠ 0
  ·rw [if_pos h7] at h; exact absurd h h7
  ·rw [if_neg h7]
   have h8 : (Hd.runs (Hd.cl l (p + 14) (num l (p + 10) 4 + 4)) l (num l p 5 + 257 + (num l (p + 5) 5 + 1)) 400 [] (p + 14 + 3 * (num l (p + 10) 4 + 4))).2.2 = 0 := by simpa using h7
   have := runs_facts (l := l) 400 [] (p + 14 + 3 * (num l (p + 10) 4 + 4)) (by omega) h8
   simp only
   omega
 ·rw [Hd.head_e6 (l := l) (p := p) (by omega) rfl rfl rfl rfl h3 (by omega) h6] at h; exact absurd h h6
theorem stored_facts {l : List Bool} {most p : Nat} {out : List Nat} (h : (stored l most p out).2.2 = 0) : p < (stored l most p out).2.1 /\ (stored l most p out).2.1 <= l.length := by
 unfold stored at h ⊢
 by_cases h1 : l.length < up p + 32
 ·rw [if_pos h1] at h; simp at h
 rw [if_neg h1] at h ⊢
 by_cases h2 : num l (up p) 16 + num l (up p + 16) 16 ≠ 65535 ∨ num l (up p) 16 &&& num l (up p + 16) 16 ≠ 0
 ·rw [if_pos h2] at h; simp at h
 rw [if_neg h2] at h ⊢
 by_cases h3 : most < out.length + num l (up p) 16
 ·rw [if_pos h3] at h; simp at h
 rw [if_neg h3] at h ⊢
 by_cases h4 : l.length < up p + 32 + 8 * num l (up p) 16
 ·rw [if_pos h4] at h; simp at h
 rw [if_neg h4]
 have : p <= up p := by unfold up; omega
 simp only
 omega
theorem syms_facts {l : List Bool} {lit dist : List Nat} {most : Nat} : ∀ (k : Nat) (out : List Nat) (p : Nat), p <= l.length -> l.length - p < k -> (syms l lit dist most k out p).2.2 = 0 -> p < (syms l lit dist most k out p).2.1 /\ (syms l lit dist most k out p).2.1 <= l.length := by
 intro k
 induction k with
 | zero => intro out p hp hk _; omega
 | succ k ih =>
  intro out p hp hk h
  simp only [syms] at h ⊢
  generalize hr : rd lit l p = r at h ⊢
  obtain ⟨y, q, c⟩ := r
  simp only at h ⊢
  by_cases h1 : c ≠ 0
  ·rw [if_pos h1] at h; exact absurd h h1
  rw [if_neg h1] at h ⊢
  have hl := (Hd.rd_lt hp hr).1 (by simpa using h1)
  by_cases h2 : y = 256
  ·rw [if_pos h2]; exact ⟨hl.2.1, hl.2.2⟩
  rw [if_neg h2] at h ⊢
  by_cases h3 : 256 < y
  ·rw [if_pos h3] at h ⊢
   by_cases h4 : (copy l dist most y q out).2.2 ≠ 0
   ·rw [if_pos h4] at h; exact absurd h h4
   rw [if_neg h4] at h ⊢
   have hc := copy_facts (by simpa using h4 : (copy l dist most y q out).2.2 = 0)
   have := ih _ _ hc.2 (by omega) h
   omega
  rw [if_neg h3] at h ⊢
  by_cases h5 : most <= out.length
  ·rw [if_pos h5] at h; simp at h
  rw [if_neg h5] at h ⊢
  have := ih _ _ hl.2.2 (by omega) h
  omega
theorem dynamic_facts {l : List Bool} {most p : Nat} {out : List Nat} (h : (dynamic l most p out).2.2 = 0) : p < (dynamic l most p out).2.1 /\ (dynamic l most p out).2.1 <= l.length := by
 unfold dynamic at h ⊢
 by_cases h1 : (head l p).2.2.2 ≠ 0
 ·rw [if_pos h1] at h; exact absurd h h1
 rw [if_neg h1] at h ⊢
 by_cases h2 : (head l p).1[256]?.getD 0 = 0
 ·rw [if_pos h2] at h; simp at h
 rw [if_neg h2] at h ⊢
 by_cases h3 : newE (Hd.zz (head l p).1) ≠ 0
 ·rw [if_pos h3] at h; exact absurd h h3
 rw [if_neg h3] at h ⊢
 by_cases h4 : newE (Hd.zz (head l p).2.1) ≠ 0 /\ ¬ (∀ x ∈ (head l p).2.1, x = 0)
 ·rw [if_pos h4] at h; exact absurd h h4.1
 rw [if_neg h4] at h ⊢
 have hh := head_facts (by simpa using h1 : (head l p).2.2.2 = 0)
 have := syms_facts (l.length + 1) out _ hh.2 (by omega) h
 omega
theorem block_facts {l : List Bool} {most p : Nat} {out : List Nat} (h : (block l most p out).2.2 = 0) : p + 3 <= (block l most p out).2.1 /\ (block l most p out).2.1 <= l.length := by
 unfold block at h ⊢
 by_cases h1 : l.length < p + 3
 ·rw [if_pos h1] at h; simp at h
 rw [if_neg h1] at h ⊢
 by_cases h2 : num l (p + 1) 2 = 0
 ·rw [if_pos h2] at h ⊢; have := stored_facts h; omega
 rw [if_neg h2] at h ⊢
 by_cases h3 : num l (p + 1) 2 = 1
 ·rw [if_pos h3] at h ⊢; have := syms_facts (l.length + 1) out (p + 3) (by omega) (by omega) h; omega
 rw [if_neg h3] at h ⊢
 by_cases h4 : num l (p + 1) 2 = 2
 ·rw [if_pos h4] at h ⊢; have := dynamic_facts h; omega
 rw [if_neg h4] at h; simp at h
end If
end Go.Proofs.YtckbhciehmokdaaGreatDoor
