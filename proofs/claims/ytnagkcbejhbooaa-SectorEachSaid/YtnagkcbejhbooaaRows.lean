/-
  No cell of these rows narrows 'for every input' (looked for: loops, veiled, ifaces, maps, wideKeys, modest, calm, conditions, laid).
  DERIVED. THE GIVEN ROWS OF THIS SEAT. 4 by the template 'for every input the law returns true; each argument reads behind the call as it read before'; 0 by the template 'total and deterministic' (their statements: YtnagkcbejhbooaaTotals.lean).
  GIVEN WITH THE SEED: the statements are not yours to turn. If you find one false, say at which input.
  Laid BY PROGRAM, IN A SANDBOX (cutbox-rows.mjs): the forced cells as the released guide's own fill.sh prints them over the translation 8bda258805f003ee… (all of the seat's roots in one cut). By AI agents, Wed Nov 11 2026. No macro, syntax, notation, axiom, sorry.
-/
import Derived.Test.YtnagkcbejhbooaaChecked
import GoSem.Claim
import GoSem.ClaimJoined
import GoSem.ClaimMapViews
import Derived.JoinedTies
import Derived.KernelRfl
namespace Go.Proofs.Ytnagkcbejhbooaa
/- THE CELL 'sum', in the pinned program and in every row, IS THE sha256 OF THE DUMP (.gsa) THAT YtnagkcbejhbooaaProg.lean LOADS. Nothing in Lean hashes anything: it is a label: what it is worth is what the hold of that sum in a sandbox is worth. -/
noncomputable def Try.pinned : Pinned := { name := "ytnagkcbejhbooaa", sum := "8bda258805f003ee8fa83d28eff3a79ee03076792b5bbb158709861c72658c11", checked := Try.checked }
namespace Rows
def none {H : Type} : Left H := { results := [], args := [] }

/-- 'valiselaw11.SectorPlays': WHATEVER THE INPUT: true; the input reads as it did. -/
def sectorPlaysSpec : ChangeSpec := { name := "sectorPlays", fn := fun _ => fun
  | [d1, d2] => { results := [.lit (.bool true)], args := [d1, d2] }
  | _ => none }
def sectorPlaysRow : OpenClaim := { program := "ytnagkcbejhbooaa", sum := "8bda258805f003ee8fa83d28eff3a79ee03076792b5bbb158709861c72658c11", func := "valise/valiselaw11.SectorPlays", spec := "sectorPlays", inPlace := ["maps.clone"], unfollowed := true, recurses := true, apart := false }
def SectorPlaysSaid : Prop := sectorPlaysRow.holds Try.pinned (OpenSpec.ofChange sectorPlaysSpec)

/-- ITS FALSE NEIGHBOUR: 'it returns false'. Refute it at one input. -/
def sectorPlaysWrong : ChangeSpec := { name := "sectorPlays", fn := fun _ => fun
  | [d1, d2] => { results := [.lit (.bool false)], args := [d1, d2] }
  | _ => none }
def SectorPlaysWrongFalsely : Prop := sectorPlaysRow.holds Try.pinned (OpenSpec.ofChange sectorPlaysWrong)

/-- 'valiselaw11.SectorEach': WHATEVER THE INPUT: true; the input reads as it did. -/
def sectorEachSpec : ChangeSpec := { name := "sectorEach", fn := fun _ => fun
  | [d1, d2, d3] => { results := [.lit (.bool true)], args := [d1, d2, d3] }
  | _ => none }
def sectorEachRow : OpenClaim := { program := "ytnagkcbejhbooaa", sum := "8bda258805f003ee8fa83d28eff3a79ee03076792b5bbb158709861c72658c11", func := "valise/valiselaw11.SectorEach", spec := "sectorEach", unfollowed := true, recurses := true, apart := false }
def SectorEachSaid : Prop := sectorEachRow.holds Try.pinned (OpenSpec.ofChange sectorEachSpec)

/-- ITS FALSE NEIGHBOUR: 'it returns false'. Refute it at one input. -/
def sectorEachWrong : ChangeSpec := { name := "sectorEach", fn := fun _ => fun
  | [d1, d2, d3] => { results := [.lit (.bool false)], args := [d1, d2, d3] }
  | _ => none }
def SectorEachWrongFalsely : Prop := sectorEachRow.holds Try.pinned (OpenSpec.ofChange sectorEachWrong)

/-- 'valiselaw12.SlotsPlays': WHATEVER THE INPUT: true; the input reads as it did. -/
def slotsPlaysSpec : ChangeSpec := { name := "slotsPlays", fn := fun _ => fun
  | [d1, d2] => { results := [.lit (.bool true)], args := [d1, d2] }
  | _ => none }
def slotsPlaysRow : OpenClaim := { program := "ytnagkcbejhbooaa", sum := "8bda258805f003ee8fa83d28eff3a79ee03076792b5bbb158709861c72658c11", func := "valise/valiselaw12.SlotsPlays", spec := "slotsPlays", unfollowed := true, recurses := true, apart := false }
def SlotsPlaysSaid : Prop := slotsPlaysRow.holds Try.pinned (OpenSpec.ofChange slotsPlaysSpec)

/-- ITS FALSE NEIGHBOUR: 'it returns false'. Refute it at one input. -/
def slotsPlaysWrong : ChangeSpec := { name := "slotsPlays", fn := fun _ => fun
  | [d1, d2] => { results := [.lit (.bool false)], args := [d1, d2] }
  | _ => none }
def SlotsPlaysWrongFalsely : Prop := slotsPlaysRow.holds Try.pinned (OpenSpec.ofChange slotsPlaysWrong)

/-- 'valiselaw12.SlotsHeaders': WHATEVER THE INPUT: true; the input reads as it did. -/
def slotsHeadersSpec : ChangeSpec := { name := "slotsHeaders", fn := fun _ => fun
  | [d1, d2, d3, d4, d5] => { results := [.lit (.bool true)], args := [d1, d2, d3, d4, d5] }
  | _ => none }
def slotsHeadersRow : OpenClaim := { program := "ytnagkcbejhbooaa", sum := "8bda258805f003ee8fa83d28eff3a79ee03076792b5bbb158709861c72658c11", func := "valise/valiselaw12.SlotsHeaders", spec := "slotsHeaders", unfollowed := true, recurses := true, apart := false }
def SlotsHeadersSaid : Prop := slotsHeadersRow.holds Try.pinned (OpenSpec.ofChange slotsHeadersSpec)

/-- ITS FALSE NEIGHBOUR: 'it returns false'. Refute it at one input. -/
def slotsHeadersWrong : ChangeSpec := { name := "slotsHeaders", fn := fun _ => fun
  | [d1, d2, d3, d4, d5] => { results := [.lit (.bool false)], args := [d1, d2, d3, d4, d5] }
  | _ => none }
def SlotsHeadersWrongFalsely : Prop := slotsHeadersRow.holds Try.pinned (OpenSpec.ofChange slotsHeadersWrong)

/- THE SECOND FORM. 'bulk': how many values and letters a reading holds, each counted each time it is reached (what is shared counts as often as it is met; a slice's spare places count too). A statement '..UptoSaid' is the law's where the arguments, and the package variables that the reading takes, are together of bulk at most 1048576: NARROWER than '..Said'. Prove '..Said' where nothing that the law and all that it calls make is longer than what came in: it says more and counts as full. Else prove '..UptoSaid'. A law counts once. -/
mutual
def uptoBulk {H : Type} : DataW H → Nat
  | .lit (.string bytes) => bytes.length + 1
  | .lit _ => 1
  | .nil => 1
  | .ptr d => uptoBulk d + 1
  | .slice elems spare => uptoBulkAll elems + uptoBulkAll spare + 1
  | .agg parts => uptoBulkAll parts + 1
  | .iface _ d => uptoBulk d + 1
  | .map entries => uptoBulkEntries entries + 1
  | .held _ => 1
def uptoBulkAll {H : Type} : List (DataW H) → Nat
  | [] => 0
  | d :: r => uptoBulk d + uptoBulkAll r
def uptoBulkEntries {H : Type} : List (Lit × DataW H) → Nat
  | [] => 0
  | x :: r => uptoBulkEntry x + uptoBulkEntries r
def uptoBulkEntry {H : Type} : Lit × DataW H → Nat
  | (.string bytes, d) => bytes.length + uptoBulk d + 1
  | (_, d) => uptoBulk d + 1
 end
def uptoSmall : (H : Type) → List (DataW H) → Bool := fun _ ds => decide (uptoBulkAll ds ≤ 1048576)
def OpenSpec.upto (s : _root_.Go.ChangeSpec) : _root_.Go.OpenSpec := { _root_.Go.OpenSpec.ofChange s with cond := some uptoSmall }

/-- 'valiselaw11.SectorPlays', WHERE WHAT IT READS IS OF BULK AT MOST 1048576: true; the input reads as it did. -/
def sectorPlaysUptoRow : OpenClaim := { program := "ytnagkcbejhbooaa", sum := "8bda258805f003ee8fa83d28eff3a79ee03076792b5bbb158709861c72658c11", func := "valise/valiselaw11.SectorPlays", spec := "sectorPlays", inPlace := ["maps.clone"], unfollowed := true, recurses := true, apart := false, narrowed := true }
def SectorPlaysUptoSaid : Prop := sectorPlaysUptoRow.holds Try.pinned (OpenSpec.upto sectorPlaysSpec)

/-- 'valiselaw11.SectorEach', WHERE WHAT IT READS IS OF BULK AT MOST 1048576: true; the input reads as it did. -/
def sectorEachUptoRow : OpenClaim := { program := "ytnagkcbejhbooaa", sum := "8bda258805f003ee8fa83d28eff3a79ee03076792b5bbb158709861c72658c11", func := "valise/valiselaw11.SectorEach", spec := "sectorEach", unfollowed := true, recurses := true, apart := false, narrowed := true }
def SectorEachUptoSaid : Prop := sectorEachUptoRow.holds Try.pinned (OpenSpec.upto sectorEachSpec)

/-- 'valiselaw12.SlotsPlays', WHERE WHAT IT READS IS OF BULK AT MOST 1048576: true; the input reads as it did. -/
def slotsPlaysUptoRow : OpenClaim := { program := "ytnagkcbejhbooaa", sum := "8bda258805f003ee8fa83d28eff3a79ee03076792b5bbb158709861c72658c11", func := "valise/valiselaw12.SlotsPlays", spec := "slotsPlays", unfollowed := true, recurses := true, apart := false, narrowed := true }
def SlotsPlaysUptoSaid : Prop := slotsPlaysUptoRow.holds Try.pinned (OpenSpec.upto slotsPlaysSpec)

/-- 'valiselaw12.SlotsHeaders', WHERE WHAT IT READS IS OF BULK AT MOST 1048576: true; the input reads as it did. -/
def slotsHeadersUptoRow : OpenClaim := { program := "ytnagkcbejhbooaa", sum := "8bda258805f003ee8fa83d28eff3a79ee03076792b5bbb158709861c72658c11", func := "valise/valiselaw12.SlotsHeaders", spec := "slotsHeaders", unfollowed := true, recurses := true, apart := false, narrowed := true }
def SlotsHeadersUptoSaid : Prop := slotsHeadersUptoRow.holds Try.pinned (OpenSpec.upto slotsHeadersSpec)

end Rows
end Go.Proofs.Ytnagkcbejhbooaa
