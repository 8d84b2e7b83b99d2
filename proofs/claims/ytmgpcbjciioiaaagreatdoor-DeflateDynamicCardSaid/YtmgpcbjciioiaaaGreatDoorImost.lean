import Derived.Test.YtmgpcbjciioiaaaGreatDoorLplain
import Derived.Test.YtmgpcbjciioiaaaGreatDoorInum
import Derived.Test.YtmgpcbjciioiaaaGreatDoorKrcodes
import Derived.Deep.RegionLaw
import Derived.Laws.ResultCell
namespace Go.Proofs.YtmgpcbjciioiaaaGreatDoor
set_option maxRecDepth 100000
set_option maxHeartbeats 8000000
section
open Go.RowKit
theorem Tryz.infoTok : (Tryz.prog.info? 48).map (fun i => (i.zero,i.size,i.bytes)) = some (some (.agg #[.int .i64 0,.int .i64 0,.int .u8 0]),3,24) := by kernel_rfl
theorem step_append_known {ops : Array Oper} {o : Oper} {a : Act} {w : World} {K : Act -> World -> Prop} {Q : Exit -> Act -> World -> Prop} {E : Prop}
  (hg : o.guard = none) (s x : Operand) (t : TypeId) (hop : o.op = Op.call { callee := Callee.builtin Builtin.append,args := #[s,x],argTypes := #[t,t] })
  (S X v : Value) (w' : World) (hs : a.eval s = S) (hx : a.eval x = X) (hrun : (Builtin.append_ #[t,t] o.type #[S,X]).run Tryz.prog w = .ok v w') (hK : K (a.put o.dst v) w') :
  if Region.wanted o (yielded ops a.tmps) = true then Oper.wp Tryz.prog o a w K Q else E := by
 have hw : Region.wanted o (yielded ops a.tmps) = true := by simp [Region.wanted,hg]
 rw [if_pos hw]
 unfold Oper.wp
 simp [execOp,hop,resolve,invoke,builtin,hs,hx,hrun,Result.andThen]
 exact hK
theorem app_has {R : Nat} {s tv : Value} {N most : Nat} {r : Rv} {W w' : World} (o : Obj) (hx : Has W R (rdi s N most tv r)) (ho : W.ownsRow 0 48 3 tv r.ts.length (tc r.ts)) (hg : ((W.alloc o).drew).grownBy w' tv.ownBlock) : Has w' R (rdi s N most tv r) :=
 (hg.block R (by have := hx.lt; simp; omega) (fun e => tok_ne hx ho R e.symm rfl)).trans (hx.alloc o)
theorem St.app {K : Nat -> Prop} {R : Nat} {s : Value} {l : List Bool} {N most : Nat} {W : World} {r : Rv} (hS : St K R s l N most W r) (t : If.Tk) (hval : If.Val t (If.tell r.ts).length) (hle : (If.tell r.ts).length + If.sz t <= most) (tv : Value)
  (hx : Has W R (rdi s N most tv r)) (ho : W.ownsRow 0 48 3 tv r.ts.length (tc r.ts)) (hnk : ∀ g,tv.ownBlock = some g -> ¬ K g) {w' : World} {v' : Value} (o : Obj)
  (hown : w'.ownsRow 0 48 3 v' (r.ts ++ [t]).length (tc (r.ts ++ [t]))) (hg : ((W.alloc o).drew).grownBy w' tv.ownBlock) (hb : v'.ownBlock = tv.ownBlock ∨ v'.ownBlock = some ((W.alloc o).drew).heap.size) (n : Int) (hn : n = (((If.tell r.ts).length + If.sz t : Nat) : Int)) :
  St K R s l N most ((w'.setCell ⟨R,3,none⟩ v').setCell ⟨R,4,none⟩ (.int .i64 n)) { r with ts := r.ts ++ [t] } /\ Fr K W ((w'.setCell ⟨R,3,none⟩ v').setCell ⟨R,4,none⟩ (.int .i64 n)) := by
 have hsz : ((W.alloc o).drew).heap.size = W.heap.size + 1 := by simp
 have hws := hg.size
 rw [hsz] at hws
 have F1 : Fr K W w' := ⟨hg.os,hg.tape,hg.output,by omega,fun k hk => by
  have hl := hS.lt k hk
  rw [hg.block k (by rw [hsz]; omega) (fun e => hnk k e.symm hk)]
  exact Below.heap_alloc W o k hl⟩
 have hlt' : ∀ k,K k -> k < w'.heap.size := fun k hk => Nat.lt_of_lt_of_le (hS.lt k hk) (by omega)
 have F2 : Fr K w' ((w'.setCell ⟨R,3,none⟩ v').setCell ⟨R,4,none⟩ (.int .i64 n)) :=
  (Fr.of_only hlt' hS.ne (only_set w' R 3 v')).trans (Fr.of_only (fun k hk => by simpa using hlt' k hk) hS.ne (only_set _ R 4 _))
 have hf := F1.trans F2
 have hRl := hx.lt
 have hxw := app_has o hx ho hg
 have hne : ∀ g,v'.ownBlock = some g -> g ≠ R := by
  intro g hgb
  rcases hb with h | h
  ·exact tok_ne hx ho g (h ▸ hgb)
  ·rw [h,hsz] at hgb
   injection hgb with hgb
   omega
 have hlen : (If.tell (r.ts ++ [t])).length = (If.tell r.ts).length + If.sz t := by rw [If.tell_snoc,If.tell1_length]
 refine ⟨⟨fun k hk => by simpa using hlt' k hk,hS.ne,sl_keep hS.sl hS.slK hf,hS.slK,glob_keep hS.gl hS.glK hf,hS.glK,hS.pn,hS.toks.snoc hval,by simp only; rw [hlen]; exact hle,v',?_,?_,?_⟩,hf⟩
 ·have h := (hxw.setSelf (i := 3) v').setSelf (i := 4) (.int .i64 n)
  unfold rdi at h ⊢
  simp only at h ⊢
  rw [hlen,<- hn]
  simpa using h
 ·exact own_setR (own_setR hown hne) hne
 ·intro g hgb
  rcases hb with h | h
  ·exact hnk g (h ▸ hgb)
  ·rw [h,hsz] at hgb
   injection hgb with hgb
   intro hk
   have := hS.lt g hk
   omega
end
section
open Go.RowKit
namespace If
open Hd (num rd)
theorem lf_ok : ∀ i : Fin 29,3 <= Sy.at' Sy.lf i.1 /\ Sy.at' Sy.lf i.1 + 2 ^ Sy.at' Sy.lb i.1 <= 259 := by decide
theorem df_ok : ∀ i : Fin 30,1 <= Sy.at' Sy.df i.1 /\ Sy.at' Sy.df i.1 + 2 ^ Sy.at' Sy.db i.1 <= 32769 := by decide
end If
def Dv (K : Nat -> Prop) (w : World) (v : Value) (ls : List Nat) : Prop := (v = .pointer none /\ ∀ x ∈ ls,x = 0) ∨ (TbK K w v ls /\ ¬ ∀ x ∈ ls,x = 0)
theorem Dv.fr {K : Nat -> Prop} {w w' : World} {v : Value} {ls : List Nat} (h : Dv K w v ls) (hf : Fr K w w') : Dv K w' v ls := h.imp id (fun h => ⟨h.1.fr hf,h.2⟩)
theorem TbK.mono {K K' : Nat -> Prop} {w : World} {v : Value} {ls : List Nat} (h : TbK K w v ls) (hK : ∀ k,K k -> K' k) : TbK K' w v ls := by
 obtain ⟨T,g,capg,e,h1,h2,k1,k2⟩ := h
 exact ⟨T,g,capg,e,h1,h2,hK _ k1,hK _ k2⟩
theorem Dv.mono {K K' : Nat -> Prop} {w : World} {v : Value} {ls : List Nat} (h : Dv K w v ls) (hK : ∀ k,K k -> K' k) : Dv K' w v ls := h.imp id (fun h => ⟨h.1.mono hK,h.2⟩)
theorem St.widen {K : Nat -> Prop} {R : Nat} {s : Value} {l : List Bool} {N most : Nat} {w : World} {r : Rv} (h : St K R s l N most w r) (o : Obj) : St (fun k => K k ∨ k = w.heap.size) R s l N most (w.alloc o) r := by
 have h1 := h.later (below1 w o)
 obtain ⟨tv,hx,ho,hn⟩ := h.has
 refine ⟨fun k hk => ?_,fun hk => ?_,h1.sl,fun a len cap b off e hl ha => Or.inl (h.slK a len cap b off e hl ha),h1.gl,Or.inl h.glK,h.pn,h.toks,h.le,tv,hx.alloc o,ho.alloc o,fun g hg hk => ?_⟩
 ·rcases hk with hk | rfl
  ·have := h.lt k hk; simp; omega
  ·simp
 ·rcases hk with hk | hk
  ·exact h.ne hk
  ·have := hx.lt; omega
 ·rcases hk with hk | hk
  ·exact hn g hg hk
  ·have := (World.ownsRow.lt ho g hg).2; omega
theorem St.narrow {K K' : Nat -> Prop} {R : Nat} {s : Value} {l : List Bool} {N most : Nat} {w w0 : World} {r r0 : Rv} (h : St K' R s l N most w r) (h0 : St K R s l N most w0 r0) (hK : ∀ k,K k -> K' k) : St K R s l N most w r := by
 obtain ⟨tv,hx,ho,hn⟩ := h.has
 exact ⟨fun k hk => h.lt k (hK k hk),fun hk => h.ne (hK _ hk),h.sl,h0.slK,h.gl,h0.glK,h.pn,h.toks,h.le,tv,hx,ho,fun g hg hk => hn g hg (hK _ hk)⟩
theorem Fr.alloc (K : Nat -> Prop) (w : World) (o : Obj) (hK : ∀ k,K k -> k < w.heap.size) : Fr K w (w.alloc o) := Fr.of_below hK (below1 w o)
end
section
open Go.RowKit
def placeOf (R : Nat) (w : World) : Nat := match w.cell? ⟨R,2,none⟩ with | some v => (intOf v).toNat | none => 0
theorem St.place {K : Nat -> Prop} {R : Nat} {s : Value} {l : List Bool} {N most : Nat} {w : World} {r : Rv} (h : St K R s l N most w r) : placeOf R w = r.p := by
 obtain ⟨tv,hx,_,_⟩ := h.has
 obtain ⟨_,_,c2,_⟩ := rdi_cells hx
 unfold placeOf
 rw [c2]
 simp [intOf]
namespace If
theorem syms_succ (l : List Bool) (lit dist : List Nat) (most k : Nat) (out : List Nat) (p y q : Nat) (c : Int) (hr : Hd.rd lit l p = (y,q,c)) :
  syms l lit dist most (k + 1) out p = if c ≠ 0 then ([],0,c) else if y = 256 then (out,q,0) else
   if 256 < y then (if (copy l dist most y q out).2.2 ≠ 0 then ([],0,(copy l dist most y q out).2.2) else syms l lit dist most k (copy l dist most y q out).1 (copy l dist most y q out).2.1) else
   if most <= out.length then ([],0,3) else syms l lit dist most k (out ++ [y]) q := by
 simp only [syms]
 rw [hr]
end If
end
section
open Go.RowKit
namespace If
end If
end
section
namespace If
open Hd (num rd head)
end If
end
end Go.Proofs.YtmgpcbjciioiaaaGreatDoor
