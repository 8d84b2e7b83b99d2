import Derived.Test.YtmgpcbjciioiaaaGreatDoorKneed
import Derived.Test.YtmgpcbjciioiaaaGreatDoorLplain
import Derived.Test.YtmgpcbjciioiaaaGreatDoorIstr
import Derived.Test.YtmgpcbjciioiaaaGreatDoorSrall
import Derived.Test.YtmgpcbjciioiaaaGreatDoorHrnew
import Derived.Test.YtmgpcbjciioiaaaGreatDoorIex
import Derived.Test.YtmgpcbjciioiaaaGreatDoorImost
import Derived.Test.YtmgpcbjciioiaaaGreatDoorCarg
import Derived.Laws.BytesArg
import Derived.Lib.SlBytesConst
import Derived.Laws.BytesString
import Derived.LaidMore
import Derived.Laws.BitsAllLaws
namespace Go.Proofs.YtmgpcbjciioiaaaGreatDoor
set_option maxRecDepth 100000
set_option maxHeartbeats 8000000
section
open Go.RowKit
theorem sl_take {w : World} {a : Option Addr} {len cap : Nat} {bs : List Nat} (h : Sl w (.slice a len cap) bs) (k : Nat) (hk : k <= len) : Sl w (.slice a k cap) (bs.take k) := by
 obtain ⟨a',len',cap',he,h1,h2,h3,h4,h5⟩ := h
 injection he with e1 e2 e3
 subst e1 e2 e3
 refine ⟨_,k,cap,rfl,by rw [List.length_take]; omega,by omega,fun h => ⟨by have := (h3 h).1; omega,(h3 h).2⟩,fun x hx => h4 x (List.mem_of_mem_take hx),fun h0 => ?_⟩
 obtain ⟨b,off,rfl,hlt,hc⟩ := h5 (by omega)
 refine ⟨b,off,rfl,hlt,fun i hi => ?_⟩
 rw [hc i (by omega),List.getElem?_take_of_lt hi]
theorem sl_byte {w : World} {s : Value} {bs : List Nat} (h : Sl w s bs) : ∀ x ∈ bs,x < 256 := by obtain ⟨_,_,_,_,_,_,_,h,_⟩ := h; exact h
end
section
open Go.RowKit
namespace If
theorem blocks_succ (l : List Bool) (most k : Nat) (out : List Nat) (p : Nat) :
  blocks l most (k + 1) out p = if (block l most p out).2.2 ≠ 0 then ([],0,(block l most p out).2.2) else
   if Hd.num l p 1 = 1 then ((block l most p out).1,(block l most p out).2.1,0) else blocks l most k (block l most p out).1 (block l most p out).2.1 := rfl
end If
end
section
open Go.RowKit
def RdLaid (W wx : World) (s8 : Value) (l : List Bool) (N most : Nat) : Prop :=
 ∃ R g m : Nat,s8 = .pointer (some ⟨R,0,none⟩) /\ W.heap.size <= R /\ W.heap.size <= g /\ R ≠ g /\ Has wx R (rdi (.slice (some ⟨g,0,none⟩) m m) N most (.slice none 0 0) ⟨0,[],.pointer none,.pointer none⟩) /\ Has wx g (bytesObj (Bs.pack l)) /\ m = (l.length + 7) / 8 /\ Below W.heap.size W wx
theorem RdLaid.one {W0 w1 : World} {g m N most : Nat} {l : List Bool} (hN : N = l.length) (hmm : m = (l.length + 7) / 8) (hgg : W0.drew.heap.size <= g) (hx : Has w1 g (bytesObj (Bs.pack l))) (hb : Below W0.drew.heap.size W0.drew w1) :
  RdLaid W0 (w1.alloc (.cells #[.slice (some ⟨g,0,none⟩) m m,.int .i64 (l.length : Int),.int .i64 0,.slice none 0 0,.int .i64 0,.int .i64 (most : Int),.pointer none,.pointer none] 90)) (.pointer (some ⟨w1.heap.size,0,none⟩)) l N most := by
 subst hN
 have hlt := hx.lt
 have hbb : Below W0.heap.size W0 w1 := ⟨hb.os,hb.tape,hb.output,hb.size,hb.block⟩
 exact ⟨w1.heap.size,g,m,rfl,hbb.size,hgg,by omega,Has.new w1 _,hx.alloc _,hmm,hbb.alloc hbb.size _⟩
abbrev zr : Obj := .cells #[.slice none 0 0,.int .i64 0,.int .i64 0,.slice none 0 0,.int .i64 0,.int .i64 0,.pointer none,.pointer none] 90
theorem RdLaid.two {W0 w1 : World} {g m N most : Nat} {l : List Bool} (hN : N = l.length) (hmm : m = (l.length + 7) / 8) (hgg : (W0.alloc zr).drew.heap.size <= g) (hx : Has w1 g (bytesObj (Bs.pack l))) (hb : Below (W0.alloc zr).drew.heap.size (W0.alloc zr).drew w1) (hz : Has w1 W0.heap.size zr) :
  RdLaid W0 ((((((((w1.setCell ⟨W0.heap.size,0,none⟩ (.slice (some ⟨g,0,none⟩) m m)).setCell ⟨W0.heap.size,1,none⟩ (.int .i64 (l.length : Int))).setCell ⟨W0.heap.size,2,none⟩ (.int .i64 0)).setCell ⟨W0.heap.size,3,none⟩ (.slice none 0 0)).setCell ⟨W0.heap.size,4,none⟩ (.int .i64 0)).setCell ⟨W0.heap.size,5,none⟩ (.int .i64 (most : Int))).setCell ⟨W0.heap.size,6,none⟩ (.pointer none)).setCell ⟨W0.heap.size,7,none⟩ (.pointer none)) (.pointer (some ⟨W0.heap.size,0,none⟩)) l N most := by
 subst hN
 have hg2 : W0.heap.size + 1 <= g := by simpa using hgg
 have hbb : Below W0.heap.size W0 w1 := (below1 W0 zr).trans (Below.mono (show Below (W0.alloc zr).heap.size (W0.alloc zr) w1 from ⟨hb.os,hb.tape,hb.output,hb.size,hb.block⟩) (by simp))
 have h8 := (((((((hz.setSelf (i := 0) (.slice (some ⟨g,0,none⟩) m m)).setSelf (i := 1) (.int .i64 (l.length : Int))).setSelf (i := 2) (.int .i64 0)).setSelf (i := 3) (.slice none 0 0)).setSelf (i := 4) (.int .i64 0)).setSelf (i := 5) (.int .i64 (most : Int))).setSelf (i := 6) (.pointer none)).setSelf (i := 7) (.pointer none)
 have hO := ((((((((only_set w1 W0.heap.size 0 (.slice (some ⟨g,0,none⟩) m m)).trans (only_set _ W0.heap.size 1 (.int .i64 (l.length : Int)))).trans (only_set _ W0.heap.size 2 (.int .i64 0))).trans (only_set _ W0.heap.size 3 (.slice none 0 0))).trans (only_set _ W0.heap.size 4 (.int .i64 0))).trans (only_set _ W0.heap.size 5 (.int .i64 (most : Int)))).trans (only_set _ W0.heap.size 6 (.pointer none))).trans (only_set _ W0.heap.size 7 (.pointer none)))
 refine ⟨W0.heap.size,g,m,rfl,Nat.le_refl _,by omega,by omega,?_,hx.only hO (by omega),hmm,hO.below hbb (Nat.le_refl _) hbb.size⟩
 simpa [rdi,If.tell] using h8
end
section
open Go.RowKit
theorem string_of (w : World) (a : Option Addr) (len cap : Nat) (bs : List Nat) (S : ByteArray) (h : Sl w (.slice a len cap) bs) (hS : Hid (S = strB bs)) : (convert 22 9 (.slice a len cap)).run Tryz.prog w = .ok (.string S) w := by
 rw [hS.out]
 exact run_string w 22 9 5 Tryz.underlying22 Tryz.underlying5 Tryz.underlying9 a len cap bs h
theorem new_sl (w : World) (cs : Array Value) (fr : Nat × Nat) (bs : List Nat) (n c : Nat) (h : cs = (vb bs).toArray) (h8 : ∀ x ∈ bs,x < 256) (hn : n = bs.length) (hle : n <= 281474976710656) :
  Sl (w.alloc (.cells cs 5 fr)) (.slice (some ⟨w.heap.size,0,none⟩) n c) bs := by
 refine ⟨_,n,c,rfl,hn,hle,fun h => by simp at h,h8,fun h0 => ⟨w.heap.size,0,rfl,by simp,fun i hi => ?_⟩⟩
 rw [Nat.zero_add,h]
 have hi' : i < bs.length := by omega
 have e : (w.alloc (.cells (vb bs).toArray 5 fr)).heap[w.heap.size]? = some (.cells (vb bs).toArray 5 fr) := by
  show (w.heap.push _)[_]? = _
  simp
 unfold World.cell?
 simp only [e]
 simp [vb_get,hi']
def GG (w : World) : Prop := Glob w /\ GlobE w
theorem GG.later {w w' : World} (h : GG w) (hb : Below w.heap.size w w') : GG w' := ⟨h.1.later hb,h.2.later hb⟩
end
section
open Go.RowKit
namespace If
end If
end
section
open Go.ChangeShapes Go.WideShapes Go.ChangeAt Go.RowKit Go.Joins
namespace If
end If
end
end Go.Proofs.YtmgpcbjciioiaaaGreatDoor
