import Derived.Test.YtmgpcbjciioiaaaGreatDoorKlen
namespace Go.Proofs.YtmgpcbjciioiaaaGreatDoor
set_option maxRecDepth 100000
set_option maxHeartbeats 8000000
open Go.RowKit
def numE (N p n : Nat) : Int := if N < p + n then 4 else 0
def TbK (K : Nat -> Prop) (w : World) (v : Value) (ls : List Nat) : Prop := ∃ T g capg,v = .pointer (some ⟨T,0,none⟩) /\ Tb w T g capg ls /\ Good ls /\ K T /\ K g
theorem TbK.fr {K : Nat -> Prop} {w w' : World} {v : Value} {ls : List Nat} (h : TbK K w v ls) (hf : Fr K w w') : TbK K w' v ls := by
 obtain ⟨T,g,capg,rfl,ht,hg,k1,k2⟩ := h
 exact ⟨T,g,capg,rfl,⟨ht.counts.same (hf.block T k1) (Nat.lt_of_lt_of_le ht.counts.lt hf.size),by rw [cell_of_heap (hf.block T k1)]; exact ht.slice,ht.cap,ht.syms.same (hf.block g k2) (Nat.lt_of_lt_of_le ht.syms.lt hf.size)⟩,hg,k1,k2⟩
end Go.Proofs.YtmgpcbjciioiaaaGreatDoor
