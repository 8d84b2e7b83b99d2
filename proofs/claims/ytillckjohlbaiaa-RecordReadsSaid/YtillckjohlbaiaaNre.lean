/- Contract of record.ReadEnd. -/
import Derived.Test.YtillckjohlbaiaaNrl
import Derived.Test.YtillckjohlbaiaaNend

namespace Go.Proofs.Ytillckjohlbaiaa
set_option maxRecDepth 100000
open Go.RowKit

abbrev z7 : List Int := [0, 0, 0, 0, 0, 0, 0]
theorem z7_is : List.replicate 7 (0 : Int) = z7 := rfl

theorem drewn_below {w w' : World} (h : ∃ n, w' = w.drewN n) : Below w.heap.size w w' := by
  obtain ⟨n, rfl⟩ := h
  exact below_drewN (Below.refl _ _) n

theorem results_tmp4 {fn : Func} {t u v x : Tmp} (h : fn.results = #[.tmp t, .tmp u, .tmp v, .tmp x]) (tmps : Array Value) (P : Program) (w : World) :
    (results fn tmps).run P w = .ok (.tuple #[tmps.getD t undef, tmps.getD u undef, tmps.getD v undef, tmps.getD x undef]) w := by
  simp [results, h]

/-- What a reader of an end tells. -/
structure Re where
  err : Int
  c : Int
  s : Int
  a : Int
def reBad (e : Int) : Re := ⟨e, 0, 0, 0⟩
def Re.val (r : Re) : Value := .tuple #[.int .i64 r.c, .int .i64 r.s, .int .i64 r.a, .int .i64 r.err]

/-- What ReadEnd tells. -/
def rdE (bs : List Nat) (i : Int) : Re :=
  if pe bs.length i 22 ≠ 0 then reBad (pe bs.length i 22) else if (bs.drop i.toNat).take 4 ≠ [80, 75, 5, 6] then reBad 15
  else if mbE (g2 (bs.drop i.toNat) 4) (g2 (bs.drop i.toNat) 6) (g2 (bs.drop i.toNat) 8) (g2 (bs.drop i.toNat) 10) (g2 (bs.drop i.toNat) 20) = false then reBad 15
  else ⟨0, g2 (bs.drop i.toNat) 10, g4 (bs.drop i.toNat) 12, g4 (bs.drop i.toNat) 16⟩

end Go.Proofs.Ytillckjohlbaiaa
