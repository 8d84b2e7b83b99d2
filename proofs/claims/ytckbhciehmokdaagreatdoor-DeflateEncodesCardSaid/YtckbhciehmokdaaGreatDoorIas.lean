import Derived.Test.YtckbhciehmokdaaGreatDoorCcap
import Derived.Test.YtckbhciehmokdaaGreatDoorInum
import Derived.Test.YtckbhciehmokdaaGreatDoorCarg
import Derived.Deep.RegionLaw
import Derived.Defers
import Derived.Recover
import Derived.LaidEql
import Derived.Stop.Asserts
import Derived.RowKitTokens
namespace Go.Proofs.YtckbhciehmokdaaGreatDoor
set_option maxRecDepth 100000
set_option maxHeartbeats 8000000
open Go.RowKit
theorem Tryz.infoTok : (Tryz.prog.info? 48).map (fun i => (i.zero, i.size, i.bytes)) = some (some (.agg #[.int .i64 0, .int .i64 0, .int .u8 0]), 3, 24) := by kernel_rfl
theorem step_append_known {ops : Array Oper} {o : Oper} {a : Act} {w : World} {K : Act -> World -> Prop} {Q : Exit -> Act -> World -> Prop} {E : Prop}
  (hg : o.guard = none) (s x : Operand) (t : TypeId) (hop : o.op = Op.call { callee := Callee.builtin Builtin.append, args := #[s, x], argTypes := #[t, t] })
  (S X v : Value) (w' : World) (hs : a.eval s = S) (hx : a.eval x = X) (hrun : (Builtin.append_ #[t, t] o.type #[S, X]).run Tryz.prog w = .ok v w') (hK : K (a.put o.dst v) w') :
  if Region.wanted o (yielded ops a.tmps) = true then Oper.wp Tryz.prog o a w K Q else E := by
 have hw : Region.wanted o (yielded ops a.tmps) = true := by simp [Region.wanted, hg]
 rw [if_pos hw]
 unfold Oper.wp
 simp [execOp, hop, resolve, invoke, builtin, hs, hx, hrun, Result.andThen]
 exact hK
theorem app_has {R : Nat} {s tv : Value} {N most : Nat} {r : Rv} {W w' : World} (o : Obj) (hx : Has W R (rdi s N most tv r)) (ho : W.ownsRow 0 48 3 tv r.ts.length (tc r.ts)) (hg : ((W.alloc o).drew).grownBy w' tv.ownBlock) : Has w' R (rdi s N most tv r) :=
 (hg.block R (by have := hx.lt; simp; omega) (fun e => tok_ne hx ho R e.symm rfl)).trans (hx.alloc o)
theorem St.app {K : Nat -> Prop} {R : Nat} {s : Value} {l : List Bool} {N most : Nat} {W : World} {r : Rv} (hS : St K R s l N most W r) (t : If.Tk) (hval : If.Val t (If.tell r.ts).length) (hle : (If.tell r.ts).length + If.sz t <= most) (tv : Value)
  (hx : Has W R (rdi s N most tv r)) (ho : W.ownsRow 0 48 3 tv r.ts.length (tc r.ts)) (hnk : ∀ g, tv.ownBlock = some g -> ¬ K g) {w' : World} {v' : Value} (o : Obj)
  (hown : w'.ownsRow 0 48 3 v' (r.ts ++ [t]).length (tc (r.ts ++ [t]))) (hg : ((W.alloc o).drew).grownBy w' tv.ownBlock) (hb : v'.ownBlock = tv.ownBlock ∨ v'.ownBlock = some ((W.alloc o).drew).heap.size) (n : Int) (hn : n = (((If.tell r.ts).length + If.sz t : Nat) : Int)) :
  St K R s l N most ((w'.setCell ⟨R, 3, none⟩ v').setCell ⟨R, 4, none⟩ (.int .i64 n)) { r with ts := r.ts ++ [t] } /\ Fr K W ((w'.setCell ⟨R, 3, none⟩ v').setCell ⟨R, 4, none⟩ (.int .i64 n)) := by
 have hsz : ((W.alloc o).drew).heap.size = W.heap.size + 1 := by simp
 have hws := hg.size
 rw [hsz] at hws
 have F1 : Fr K W w' := ⟨hg.os, hg.tape, hg.output, by omega, fun k hk => by
  have hl := hS.lt k hk
  rw [hg.block k (by rw [hsz]; omega) (fun e => hnk k e.symm hk)]
  exact Below.heap_alloc W o k hl⟩
 have hlt' : ∀ k, K k -> k < w'.heap.size := fun k hk => Nat.lt_of_lt_of_le (hS.lt k hk) (by omega)
 have F2 : Fr K w' ((w'.setCell ⟨R, 3, none⟩ v').setCell ⟨R, 4, none⟩ (.int .i64 n)) :=
  (Fr.of_only hlt' hS.ne (only_set w' R 3 v')).trans (Fr.of_only (fun k hk => by simpa using hlt' k hk) hS.ne (only_set _ R 4 _))
 have hf := F1.trans F2
 have hRl := hx.lt
 have hxw := app_has o hx ho hg
 have hne : ∀ g, v'.ownBlock = some g -> g ≠ R := by
  intro g hgb
  rcases hb with h | h
  ·exact tok_ne hx ho g (h ▸ hgb)
  ·rw [h, hsz] at hgb
   injection hgb with hgb
   omega
 have hlen : (If.tell (r.ts ++ [t])).length = (If.tell r.ts).length + If.sz t := by rw [If.tell_snoc, If.tell1_length]
 refine ⟨⟨fun k hk => by simpa using hlt' k hk, hS.ne, sl_keep hS.sl hS.slK hf, hS.slK, glob_keep hS.gl hS.glK hf, hS.glK, hS.pn, hS.toks.snoc hval, by simp only; rw [hlen]; exact hle, v', ?_, ?_, ?_⟩, hf⟩
 ·have h := (hxw.setSelf (i := 3) v').setSelf (i := 4) (.int .i64 n)
  unfold rdi at h ⊢
  simp only at h ⊢
  rw [hlen, <- hn]
  simpa using h
 ·exact own_setR (own_setR hown hne) hne
 ·intro g hgb
  rcases hb with h | h
  ·exact hnk g (h ▸ hgb)
  ·rw [h, hsz] at hgb
   injection hgb with hgb
   intro hk
   have := hS.lt g hk
   omega
end Go.Proofs.YtckbhciehmokdaaGreatDoor
namespace Go.Proofs.YtckbhciehmokdaaGreatDoor
set_option maxRecDepth 100000
set_option maxHeartbeats 8000000
open Go.RowKit Go.Extern.Stop Go.Stop Go.Extern
def GlobE (w : World) : Prop := w.cell? ⟨0, 0, none⟩ = some (.iface 228 (.agg #[.pointer (some ⟨2, 136, none⟩)]))
theorem GlobE.lt {w : World} (h : GlobE w) : 0 < w.heap.size := by
 unfold GlobE at h
 rcases Nat.lt_or_ge 0 w.heap.size with h0 | h0
 ·exact h0
 ·rw [World.cell?, Array.getElem?_eq_none h0] at h; cases h
theorem GlobE.later {w w' : World} (h : GlobE w) (hb : Below w.heap.size w w') : GlobE w' := by
 have hl := GlobE.lt h
 unfold GlobE at h ⊢
 rw [hb.cell (p := ⟨0, 0, none⟩) hl]; exact h
end Go.Proofs.YtckbhciehmokdaaGreatDoor
