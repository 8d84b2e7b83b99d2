/- The program's disk and the document's, side by side in a law. -/
import Derived.Test.YtillckjohlbaiaaYdall
import Derived.Test.YtillckjohlbaiaaYdcr
import Derived.Test.YtillckjohlbaiaaEly
import Derived.Test.YtillckjohlbaiaaEtwo

namespace Go.Proofs.Ytillckjohlbaiaa
set_option maxRecDepth 100000
open Go.RowKit

/-- The program's disk d at block b; the document's is the value v, and is m; nothing of the former lies in E, all of the latter in G; what lies in F is as it was in ws. -/
structure Bo (w0 w : World) (b : Nat) (d : Ek.Dk) (v : Value) (m : Ek.Dk) (E G F : Nat → Prop) (ws : World) : Prop where
  ly : Ly w0 w b d E
  doc : DDk w G v m
  sub : ∀ k, G k → E k
  from' : ∀ k, E k → w0.heap.size ≤ k
  fr : ∀ k, F k → k < ws.heap.size ∧ E k ∧ ¬ G k ∧ w.heap[k]? = ws.heap[k]?

theorem Ly.lt {w0 w : World} {b : Nat} {d : Ek.Dk} {E : Nat → Prop} (h : Ly w0 w b d E) : ∀ k, E k → k < w.heap.size := by
  obtain ⟨_, _, _, h, _⟩ := h
  exact h
theorem Ly.new {w0 w w' : World} {b : Nat} {d : Ek.Dk} {E : Nat → Prop} (h : Ly w0 w b d E) (hb : Below w.heap.size w w') : Ly w0 w' b d (fun k => E k ∨ (w.heap.size ≤ k ∧ k < w'.heap.size)) := by
  obtain ⟨S, hd, hs, hg, hb0⟩ := h
  have := hb.size
  refine ⟨S, hd.later hb, fun k hk => ⟨(hs k hk).1, by have := (hs k hk).2.1; omega, ?_⟩, fun k hk => ?_, hb0.trans (hb.mono hb0.size)⟩
  · rintro (h | h)
    · exact (hs k hk).2.2 h
    · have := (hs k hk).2.1; omega
  · rcases hk with h | h
    · have := hg k h; omega
    · exact h.2
theorem Bo.below {w0 w : World} {b : Nat} {d m : Ek.Dk} {v : Value} {E G F : Nat → Prop} {ws : World} (h : Bo w0 w b d v m E G F ws) : Below w0.heap.size w0 w := h.ly.below
theorem Bo.later {w0 w w' : World} {b : Nat} {d m : Ek.Dk} {v : Value} {E G F : Nat → Prop} {ws : World} (h : Bo w0 w b d v m E G F ws) (hb : Below w.heap.size w w') : Bo w0 w' b d v m E G F ws := ⟨h.ly.later hb, h.doc.later hb, h.sub, h.from', fun k hk => ⟨(h.fr k hk).1, (h.fr k hk).2.1, (h.fr k hk).2.2.1, (hb.block k (h.ly.lt k (h.fr k hk).2.1)).trans (h.fr k hk).2.2.2⟩⟩
/-- What was made since is none of the disk's. -/
theorem Bo.new {w0 w w' : World} {b : Nat} {d m : Ek.Dk} {v : Value} {E G F : Nat → Prop} {ws : World} (h : Bo w0 w b d v m E G F ws) (hb : Below w.heap.size w w') : Bo w0 w' b d v m (fun k => E k ∨ (w.heap.size ≤ k ∧ k < w'.heap.size)) G F ws :=
  ⟨h.ly.new hb, h.doc.later hb, fun k hk => Or.inl (h.sub k hk), fun k hk => by
    have := h.below.size
    rcases hk with h1 | h1
    · exact h.from' k h1
    · omega, fun k hk => ⟨(h.fr k hk).1, Or.inl (h.fr k hk).2.1, (h.fr k hk).2.2.1, (hb.block k (h.ly.lt k (h.fr k hk).2.1)).trans (h.fr k hk).2.2.2⟩⟩
/-- The document's call was done. -/
theorem Bo.ref {w0 w w' : World} {b : Nat} {d m m' : Ek.Dk} {v v' : Value} {E G F : Nat → Prop} {ws : World} (h : Bo w0 w b d v m E G F ws) (hb : Below w.heap.size w w') (hd : DDk w' (fun q => G q ∨ w.heap.size ≤ q) v' m') :
    Bo w0 w' b d v' m' (fun k => E k ∨ (w.heap.size ≤ k ∧ k < w'.heap.size)) (fun k => G k ∨ (w.heap.size ≤ k ∧ k < w'.heap.size)) F ws :=
  ⟨h.ly.new hb, hd.lo.mono (fun q hq => by
    rcases hq with ⟨h1 | h1, h2⟩
    · exact Or.inl h1
    · exact Or.inr ⟨h1, h2⟩), fun k hk => hk.imp (h.sub k) id, (h.new hb).from', fun k hk => ⟨((h.new hb).fr k hk).1, ((h.new hb).fr k hk).2.1, (by
    rintro (q | q)
    · exact (h.fr k hk).2.2.1 q
    · have := h.ly.lt k (h.fr k hk).2.1; omega), ((h.new hb).fr k hk).2.2.2⟩⟩
theorem DDk.same {w w' : World} {G : Nat → Prop} {v : Value} {d : Ek.Dk} (h : DDk w G v d) (hs : ∀ k, G k → k < w'.heap.size) (hk : ∀ k, G k → k < w.heap.size → w'.heap[k]? = w.heap[k]?) : DDk w' G v d := by
  obtain ⟨a, la, c, lc, e, hc, hnl, ho⟩ := h
  refine ⟨a, la, c, lc, e, ⟨fun i hi => ?_, fun k j r hr => ?_⟩, hnl, ho⟩
  · obtain ⟨g, off, e, hg, hl, hc⟩ := hc.1 i hi
    exact ⟨g, off, e, hg, hs g hg, (World.cell?_of_block (a := ⟨g, off + i, none⟩) (hk g hg hl)).trans hc⟩
  · obtain ⟨g, off, e, hg, hl, h1, h2⟩ := hc.2 k j r hr
    exact ⟨g, off, e, hg, hs g hg, (World.cell?_of_block (a := ⟨g, off + k * 2, none⟩) (hk g hg hl)).trans h1, (World.cell?_of_block (a := ⟨g, off + k * 2 + 1, none⟩) (hk g hg hl)).trans h2⟩
/-- The program's call was done. -/
theorem Bo.prog {w0 w w' : World} {b : Nat} {d d' m : Ek.Dk} {v r : Value} {E G F : Nat → Prop} {ws : World} {e : Ending} (h : Bo w0 w b d v m E G F ws) (hp : LyP w0 w b d' E r e w') : e = .returned r ∧ Bo w0 w' b d' v m E G F ws :=
  ⟨hp.1, hp.2.1, h.doc.same (fun k hk => hp.2.1.lt k (h.sub k hk)) (fun k hk _ => hp.2.2 k (h.sub k hk)), h.sub, h.from', fun k hk => ⟨(h.fr k hk).1, (h.fr k hk).2.1, (h.fr k hk).2.2.1, (hp.2.2 k (h.fr k hk).2.1).trans (h.fr k hk).2.2.2⟩⟩
/-- A block of the law's own was written. -/
theorem Bo.tch {w0 w w' : World} {b : Nat} {d m : Ek.Dk} {v : Value} {E G F : Nat → Prop} {ws : World} (h : Bo w0 w b d v m E G F ws) (g : Nat) (hE : E g) (hG : ¬ G g) (hF : ws.heap.size ≤ g) (ht : Tch (fun k => k = g) w w') : Bo w0 w' b d v m E G F ws :=
  ⟨h.ly.turned (ht.mono (fun k hk => by subst hk; exact hE)) h.from', h.doc.same (fun k hk => Nat.lt_of_lt_of_le (h.ly.lt k (h.sub k hk)) ht.size) (fun k hk hl => ht.block k hl (fun e => hG (e ▸ hk))), h.sub, h.from', fun k hk => ⟨(h.fr k hk).1, (h.fr k hk).2.1, (h.fr k hk).2.2.1, (ht.block k (h.ly.lt k (h.fr k hk).2.1) (fun e => by have := (h.fr k hk).1; omega)).trans (h.fr k hk).2.2.2⟩⟩
/-- From here on. -/
theorem Bo.base {w0 w : World} {b : Nat} {d m : Ek.Dk} {v : Value} {E G F : Nat → Prop} {ws : World} (h : Bo w0 w b d v m E G F ws) (F' : Nat → Prop) (hF : ∀ k, F' k → E k ∧ ¬ G k) : Bo w0 w b d v m E G F' w :=
  ⟨h.ly, h.doc, h.sub, h.from', fun k hk => ⟨h.ly.lt k (hF k hk).1, (hF k hk).1, (hF k hk).2, rfl⟩⟩
theorem Bo.none {w0 w : World} {b : Nat} {d m : Ek.Dk} {v : Value} {E G F : Nat → Prop} {ws : World} (h : Bo w0 w b d v m E G F ws) (wt : World) : Bo w0 w b d v m E G (fun _ => False) wt :=
  ⟨h.ly, h.doc, h.sub, h.from', fun _ hk => hk.elim⟩
end Go.Proofs.Ytillckjohlbaiaa
