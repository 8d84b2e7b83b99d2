/- The program's disk and the document's, side by side in a law. -/
import Derived.Test.YthbiibinmofmfaaCrc
import Derived.Test.YthbiibinmofmfaaYdcr
import Derived.Test.YthbiibinmofmfaaYds
import Derived.Test.YthbiibinmofmfaaEtwo
import Derived.Test.YthbiibinmofmfaaEdone
import Derived.BigQuiet

namespace Go.Proofs.Ythbiibinmofmfaa
set_option maxRecDepth 100000
open Go.RowKit

/-- The program's disk d at block b; the document's is the value v, and is m; nothing of the former lies in E, all of the latter in G; what lies in F is as it was in ws. -/
structure Bo (w0 w : World) (b : Nat) (d : Ek.Dk) (v : Value) (m : Ek.Dk) (E G F : Nat → Prop) (ws : World) : Prop where
  ly : Ly w0 w b d E
  doc : DDk w G v m
  sub : ∀ k, G k → E k
  from' : ∀ k, E k → w0.heap.size ≤ k
  fr : ∀ k, F k → k < ws.heap.size ∧ E k ∧ ¬ G k ∧ w.heap[k]? = ws.heap[k]?

theorem Ly.lt {w0 w : World} {b : Nat} {d : Ek.Dk} {E : Nat → Prop} (h : Ly w0 w b d E) : ∀ k, E k → k < w.heap.size := by
  obtain ⟨_, _, _, h, _⟩ := h
  exact h
theorem Ly.new {w0 w w' : World} {b : Nat} {d : Ek.Dk} {E : Nat → Prop} (h : Ly w0 w b d E) (hb : Below w.heap.size w w') : Ly w0 w' b d (fun k => E k ∨ (w.heap.size ≤ k ∧ k < w'.heap.size)) := by
  obtain ⟨S, hd, hs, hg, hb0⟩ := h
  have := hb.size
  refine ⟨S, hd.later hb, fun k hk => ⟨(hs k hk).1, by have := (hs k hk).2.1; omega, ?_⟩, fun k hk => ?_, hb0.trans (hb.mono hb0.size)⟩
  · rintro (h | h)
    · exact (hs k hk).2.2 h
    · have := (hs k hk).2.1; omega
  · rcases hk with h | h
    · have := hg k h; omega
    · exact h.2
theorem Bo.below {w0 w : World} {b : Nat} {d m : Ek.Dk} {v : Value} {E G F : Nat → Prop} {ws : World} (h : Bo w0 w b d v m E G F ws) : Below w0.heap.size w0 w := h.ly.below
theorem Bo.later {w0 w w' : World} {b : Nat} {d m : Ek.Dk} {v : Value} {E G F : Nat → Prop} {ws : World} (h : Bo w0 w b d v m E G F ws) (hb : Below w.heap.size w w') : Bo w0 w' b d v m E G F ws := ⟨h.ly.later hb, h.doc.later hb, h.sub, h.from', fun k hk => ⟨(h.fr k hk).1, (h.fr k hk).2.1, (h.fr k hk).2.2.1, (hb.block k (h.ly.lt k (h.fr k hk).2.1)).trans (h.fr k hk).2.2.2⟩⟩
/-- What was made since is none of the disk's. -/
theorem Bo.new {w0 w w' : World} {b : Nat} {d m : Ek.Dk} {v : Value} {E G F : Nat → Prop} {ws : World} (h : Bo w0 w b d v m E G F ws) (hb : Below w.heap.size w w') : Bo w0 w' b d v m (fun k => E k ∨ (w.heap.size ≤ k ∧ k < w'.heap.size)) G F ws :=
  ⟨h.ly.new hb, h.doc.later hb, fun k hk => Or.inl (h.sub k hk), fun k hk => by
    have := h.below.size
    rcases hk with h1 | h1
    · exact h.from' k h1
    · omega, fun k hk => ⟨(h.fr k hk).1, Or.inl (h.fr k hk).2.1, (h.fr k hk).2.2.1, (hb.block k (h.ly.lt k (h.fr k hk).2.1)).trans (h.fr k hk).2.2.2⟩⟩
/-- The document's call was done. -/
theorem Bo.ref {w0 w w' : World} {b : Nat} {d m m' : Ek.Dk} {v v' : Value} {E G F : Nat → Prop} {ws : World} (h : Bo w0 w b d v m E G F ws) (hb : Below w.heap.size w w') (hd : DDk w' (fun q => G q ∨ w.heap.size ≤ q) v' m') :
    Bo w0 w' b d v' m' (fun k => E k ∨ (w.heap.size ≤ k ∧ k < w'.heap.size)) (fun k => G k ∨ (w.heap.size ≤ k ∧ k < w'.heap.size)) F ws :=
  ⟨h.ly.new hb, hd.lo.mono (fun q hq => by
    rcases hq with ⟨h1 | h1, h2⟩
    · exact Or.inl h1
    · exact Or.inr ⟨h1, h2⟩), fun k hk => hk.imp (h.sub k) id, (h.new hb).from', fun k hk => ⟨((h.new hb).fr k hk).1, ((h.new hb).fr k hk).2.1, (by
    rintro (q | q)
    · exact (h.fr k hk).2.2.1 q
    · have := h.ly.lt k (h.fr k hk).2.1; omega), ((h.new hb).fr k hk).2.2.2⟩⟩
theorem DDk.same {w w' : World} {G : Nat → Prop} {v : Value} {d : Ek.Dk} (h : DDk w G v d) (hs : ∀ k, G k → k < w'.heap.size) (hk : ∀ k, G k → k < w.heap.size → w'.heap[k]? = w.heap[k]?) : DDk w' G v d := by
  obtain ⟨a, la, c, lc, e, hc, hnl, ho⟩ := h
  refine ⟨a, la, c, lc, e, ⟨fun i hi => ?_, fun k j r hr => ?_⟩, hnl, ho⟩
  · obtain ⟨g, off, e, hg, hl, hc⟩ := hc.1 i hi
    exact ⟨g, off, e, hg, hs g hg, (World.cell?_of_block (a := ⟨g, off + i, none⟩) (hk g hg hl)).trans hc⟩
  · obtain ⟨g, off, e, hg, hl, h1, h2⟩ := hc.2 k j r hr
    exact ⟨g, off, e, hg, hs g hg, (World.cell?_of_block (a := ⟨g, off + k * 2, none⟩) (hk g hg hl)).trans h1, (World.cell?_of_block (a := ⟨g, off + k * 2 + 1, none⟩) (hk g hg hl)).trans h2⟩
/-- The program's call was done. -/
theorem Bo.prog {w0 w w' : World} {b : Nat} {d d' m : Ek.Dk} {v r : Value} {E G F : Nat → Prop} {ws : World} {e : Ending} (h : Bo w0 w b d v m E G F ws) (hp : LyP w0 w b d' E r e w') : e = .returned r ∧ Bo w0 w' b d' v m E G F ws :=
  ⟨hp.1, hp.2.1, h.doc.same (fun k hk => hp.2.1.lt k (h.sub k hk)) (fun k hk _ => hp.2.2 k (h.sub k hk)), h.sub, h.from', fun k hk => ⟨(h.fr k hk).1, (h.fr k hk).2.1, (h.fr k hk).2.2.1, (hp.2.2 k (h.fr k hk).2.1).trans (h.fr k hk).2.2.2⟩⟩
/-- A block of the law's own was written. -/
theorem Bo.tch {w0 w w' : World} {b : Nat} {d m : Ek.Dk} {v : Value} {E G F : Nat → Prop} {ws : World} (h : Bo w0 w b d v m E G F ws) (g : Nat) (hE : E g) (hG : ¬ G g) (hF : ws.heap.size ≤ g) (ht : Tch (fun k => k = g) w w') : Bo w0 w' b d v m E G F ws :=
  ⟨h.ly.turned (ht.mono (fun k hk => by subst hk; exact hE)) h.from', h.doc.same (fun k hk => Nat.lt_of_lt_of_le (h.ly.lt k (h.sub k hk)) ht.size) (fun k hk hl => ht.block k hl (fun e => hG (e ▸ hk))), h.sub, h.from', fun k hk => ⟨(h.fr k hk).1, (h.fr k hk).2.1, (h.fr k hk).2.2.1, (ht.block k (h.ly.lt k (h.fr k hk).2.1) (fun e => by have := (h.fr k hk).1; omega)).trans (h.fr k hk).2.2.2⟩⟩
/-- From here on. -/
theorem Bo.base {w0 w : World} {b : Nat} {d m : Ek.Dk} {v : Value} {E G F : Nat → Prop} {ws : World} (h : Bo w0 w b d v m E G F ws) (F' : Nat → Prop) (hF : ∀ k, F' k → E k ∧ ¬ G k) : Bo w0 w b d v m E G F' w :=
  ⟨h.ly, h.doc, h.sub, h.from', fun k hk => ⟨h.ly.lt k (hF k hk).1, (hF k hk).1, (hF k hk).2, rfl⟩⟩
theorem Bo.none {w0 w : World} {b : Nat} {d m : Ek.Dk} {v : Value} {E G F : Nat → Prop} {ws : World} (h : Bo w0 w b d v m E G F ws) (wt : World) : Bo w0 w b d v m E G (fun _ => False) wt :=
  ⟨h.ly, h.doc, h.sub, h.from', fun _ hk => hk.elim⟩
end Go.Proofs.Ythbiibinmofmfaa

/- Contract of valiselaw11.alike: the program's disk and the document's have the same. -/
namespace Go.Proofs.Ythbiibinmofmfaa
set_option maxRecDepth 100000
open Go.RowKit

end Go.Proofs.Ythbiibinmofmfaa

/- What the steps of both disks share. -/
namespace Go.Proofs.Ythbiibinmofmfaa
set_option maxRecDepth 100000
open Go.RowKit

theorem DDk.four {w : World} {G : Nat → Prop} {v : Value} {d : Ek.Dk} (h : DDk w G v d) : ∃ a n c l m k f x, v = .agg #[.slice a n c, .slice l m k, .int .i64 f, .bool x] := by
  obtain ⟨a, la, c, lc, rfl, _⟩ := h
  exact ⟨_, _, _, _, _, _, _, _, rfl⟩
theorem results_tct {P : Program} {fn : Func} {p c s : Tmp} {ty : TypeId} (h : fn.results = #[.tmp p, .cell c ty, .tmp s]) (tmps : Array Value) (w : World) (g : Nat) (t : TypeId) (cs : Array Value) (fr : Nat × Nat) (d : TypeDesc)
    (hp : tmps.getD c undef = .pointer (some ⟨g, 0, none⟩)) (hg : w.heap[g]? = some (.cells cs t fr))
    (hu : P.underlying ty = some d) (hd : (match d with | .struct _ | .array _ _ => true | _ => false) = true) (hi : (P.info? ty).map (·.size) = some cs.size) :
    (results fn tmps).run P w = .ok (.tuple #[tmps.getD p undef, .agg cs, tmps.getD s undef]) w := by
  have hp' : tmps[c]?.getD undef = .pointer (some ⟨g, 0, none⟩) := by simpa using hp
  simp [results, h, hp', asAddr, run_loadVar_row w g t ty cs fr d hg hu hd hi]
theorem exec_row {P : Program} {o : Oper} {a : Act} {w : World} {ty : TypeId} (x : Operand) (ho : o.op = .load ty x)
    (g : Nat) (hx : a.eval x = .pointer (some ⟨g, 0, none⟩)) (t : TypeId) (cs : Array Value) (fr : Nat × Nat) (d : TypeDesc) (hg : w.heap[g]? = some (.cells cs t fr))
    (hu : P.underlying ty = some d) (hd : (match d with | .struct _ | .array _ _ => true | _ => false) = true) (hi : (P.info? ty).map (·.size) = some cs.size) :
    (execOp a.eval o).run P w = .ok (.value (.agg cs)) w := by
  unfold execOp
  simp only [ho, hx, Instr.loadAt, Instr.sureAddr, Sem.run_bind, Sem.run_pure, Result.andThen_ok, run_loadVar_row w g t ty cs fr d hg hu hd hi]
theorem has_row {w : World} {g k : Nat} {o : Obj} (h : Has w k o) (hne : g ≠ k) (cs : Array Value) : Has (w.setRow g cs) k o := (setRow_other w g k cs (fun e => hne e.symm)).trans h
theorem tch_row (w : World) (g : Nat) (cs : Array Value) : Tch (fun k => k = g) w (w.setRow g cs) := ⟨rfl, rfl, rfl, by simp, fun k _ hn => setRow_other w g k cs hn⟩
theorem Try.infoDisk4 : (Try.prog.info? 32).map (·.size) = some 4 := by kernel_rfl
/-- What a step leaves: both disks are d. -/
def StP (w0 : World) (F : Nat → Prop) (ws : World) (d : Ek.Dk) (e : Ending) (w' : World) : Prop := ∃ b v E G, e = .returned (.tuple #[.pointer (some ⟨b, 0, none⟩), v, .bool true]) ∧ Bo w0 w' b d v d E G F ws
theorem StP.of {w0 w : World} {b : Nat} {d : Ek.Dk} {v : Value} {E G F : Nat → Prop} {ws : World} (h : Bo w0 w b d v d E G F ws) (z : Nat) (hz : E z) (hg : ¬ G z) (hF : ws.heap.size ≤ z) (cs : Array Value) : StP w0 F ws d (.returned (.tuple #[.pointer (some ⟨b, 0, none⟩), v, .bool true])) (w.setRow z cs) :=
  ⟨b, v, E, G, rfl, h.tch z hz hg hF (tch_row w z cs)⟩
/-- The boxes that a step begins with. -/
theorem step_boxes (w : World) (VC AC ZC : Obj) : ∃ W, W = ((w.alloc VC).alloc AC).alloc ZC ∧ Below w.heap.size w W ∧ W.heap.size = w.heap.size + 3 ∧ Has W w.heap.size VC ∧ Has W (w.heap.size + 1) AC ∧ Has W (w.heap.size + 2) ZC := by
  refine ⟨_, rfl, (below1 w _).trans (((below1 _ _).trans ((below1 _ _).mono (by simp))).mono (by simp)), by simp, ((Has.new w VC).later (below1 _ _)).later (below1 _ _), ?_, ?_⟩
  · have := (Has.new (w.alloc VC) AC).later (below1 _ ZC)
    rwa [show (w.alloc VC).heap.size = w.heap.size + 1 by simp] at this
  · have := Has.new ((w.alloc VC).alloc AC) ZC
    rwa [show ((w.alloc VC).alloc AC).heap.size = w.heap.size + 2 by simp] at this
theorem ly_write_t {w0 w w' : World} {b : Nat} {d : Ek.Dk} {E : Nat → Prop} (h : Ly w0 w b d E) (hbw : Below w.heap.size w w') (i : Int) (s : Value) (bs : List Nat) (hs : Sl w' s bs) (hg : ∀ g off spot len cap, s = .slice (some ⟨g, off, spot⟩) len cap → E g ∨ w.heap.size ≤ g) (hu : d.used < 1000000) :
    Calls Try.prog 39 #[.pointer (some ⟨b, 0, none⟩), .int .i64 i, s] w' fun e w2 => LyP w0 w' b (Ek.write d i bs) E (.int .i64 (Ek.writeE d i bs)) e w2 ∧ Tch (fun k => ¬ E k) w' w2 := by
  obtain ⟨S, hd, hS, hn, hb⟩ := h
  have hsz := hbw.size
  exact (write_any w' S b d i bs s (hd.later hbw) hs (fun g off spot len cap e hk => by
    rcases hg g off spot len cap e with h | h
    · exact (hS g hk).2.2 h
    · have := (hS g hk).2.1; omega) hu).mono fun e w2 hp => ⟨LyP.of (fun k hk => ⟨(hS k hk).1, by have := (hS k hk).2.1; omega, (hS k hk).2.2⟩) (fun k hk => by have := hn k hk; omega) (hb.trans (hbw.mono hb.size)) hp, by
      obtain ⟨_, S', _, ht, _⟩ := hp
      exact ht.mono (fun k hk => (hS k hk).2.2)⟩
theorem ly_crash_t {w0 w : World} {b : Nat} {d : Ek.Dk} {E : Nat → Prop} (h : Ly w0 w b d E) (ksv : Value) (ks : List Int) (hk : Ks w ksv ks) : Calls Try.prog 15 #[.pointer (some ⟨b, 0, none⟩), ksv] w fun e w2 => LyP w0 w b (Ek.crash d (Ek.nth ks)) E (.int .i64 0) e w2 ∧ Tch (fun k => ¬ E k) w w2 := by
  obtain ⟨S, hd, hS, hn, hb⟩ := h
  refine (crash_any w S b d ksv ks hd hk).mono fun e w' hp => ⟨LyP.of hS hn hb hp, ?_⟩
  obtain ⟨_, S', _, ht, _⟩ := hp
  exact ht.mono (fun k hk => (hS k hk).2.2)
theorem wp_exec {P : Program} {o : Oper} {a : Act} {w w' : World} {v : Value} {K : Act → World → Prop} {Q : Exit → Act → World → Prop} (h : (execOp a.eval o).run P w = .ok (.value v) w') (hk : K (a.put o.dst v) w') : o.wp P a w K Q := by
  unfold Oper.wp
  rw [h]
  exact hk
theorem sl_same {w w' : World} {g n cap : Nat} {bs : List Nat} (h : Sl w (.slice (some ⟨g, 0, none⟩) n cap) bs) (he : w'.heap[g]? = w.heap[g]?) (hg : g < w.heap.size) : Sl w' (.slice (some ⟨g, 0, none⟩) n cap) bs := by
  obtain ⟨a, len, c, e, h1, h2, h3, h4, h5⟩ := h
  injection e with e1 e2 e3
  subst e1 e2 e3
  refine ⟨_, _, _, rfl, h1, h2, h3, h4, fun h0 => ?_⟩
  obtain ⟨b, off, e, hl, hc⟩ := h5 h0
  have eb : b = g := by injection e with e; injection e with e; exact e.symm
  subst eb
  have hl' : b < w'.heap.size := (Array.getElem?_eq_some_iff.1 (he.trans (Array.getElem?_eq_getElem hg))).1
  exact ⟨b, off, e, hl', fun i hi => (World.cell?_of_block (a := ⟨b, off + i, none⟩) he).trans (hc i hi)⟩
end Go.Proofs.Ythbiibinmofmfaa
