/-
  No cell of these rows narrows 'for every input' (looked for: loops, veiled, ifaces, maps, wideKeys, modest, calm, conditions, laid).
  DERIVED. THE GIVEN ROWS OF THIS SEAT. 8 by the template 'for every input the law returns true; each argument reads behind the call as it read before'; 0 by the template 'total and deterministic' (their statements: YtamlbonkppajbaaTotals.lean).
  GIVEN WITH THE SEED: the statements are not yours to turn. If you find one false, say at which input.
  Laid BY PROGRAM, IN A SANDBOX (cutbox-rows.mjs): the forced cells as the released guide's own fill.sh prints them over the translation f2bbe290ac187684… (all of the seat's roots in one cut). By AI agents, Wed Nov 11 2026. No macro, syntax, notation, axiom, sorry.
-/
import Derived.Test.YtamlbonkppajbaaChecked
import GoSem.Claim
import GoSem.ClaimJoined
import GoSem.ClaimMapViews
import Derived.JoinedTies
import Derived.KernelRfl
namespace Go.Proofs.Ytamlbonkppajbaa
/- THE CELL 'sum', in the pinned program and in every row, IS THE sha256 OF THE DUMP (.gsa) THAT YtamlbonkppajbaaProg.lean LOADS. Nothing in Lean hashes anything: it is a label: what it is worth is what the hold of that sum in a sandbox is worth. -/
noncomputable def Try.pinned : Pinned := { name := "ytamlbonkppajbaa", sum := "f2bbe290ac18768447b38527cd9d22d3b872ff4e78feaed84867393eb9f721a5", checked := Try.checked }
namespace Rows
def none {H : Type} : Left H := { results := [], args := [] }

/-- 'laws.FnExactValidRanks': WHATEVER THE INPUT: true; the input reads as it did. -/
def fnExactValidRanksSpec : ChangeSpec := { name := "fnExactValidRanks", fn := fun _ => fun
  | [d] => { results := [.lit (.bool true)], args := [d] }
  | _ => none }
def fnExactValidRanksRow : OpenClaim := { program := "ytamlbonkppajbaa", sum := "f2bbe290ac18768447b38527cd9d22d3b872ff4e78feaed84867393eb9f721a5", func := "loop.example/g01112/laws.FnExactValidRanks", spec := "fnExactValidRanks", apart := false }
def FnExactValidRanksSaid : Prop := fnExactValidRanksRow.holds Try.pinned (OpenSpec.ofChange fnExactValidRanksSpec)

/-- ITS FALSE NEIGHBOUR: 'it returns false'. Refute it at one input. -/
def fnExactValidRanksWrong : ChangeSpec := { name := "fnExactValidRanks", fn := fun _ => fun
  | [d] => { results := [.lit (.bool false)], args := [d] }
  | _ => none }
def FnExactValidRanksWrongFalsely : Prop := fnExactValidRanksRow.holds Try.pinned (OpenSpec.ofChange fnExactValidRanksWrong)

/-- 'laws.FnExactDistancesOf': WHATEVER THE INPUT: true; the input reads as it did. -/
def fnExactDistancesOfSpec : ChangeSpec := { name := "fnExactDistancesOf", fn := fun _ => fun
  | [d] => { results := [.lit (.bool true)], args := [d] }
  | _ => none }
def fnExactDistancesOfRow : OpenClaim := { program := "ytamlbonkppajbaa", sum := "f2bbe290ac18768447b38527cd9d22d3b872ff4e78feaed84867393eb9f721a5", func := "loop.example/g01112/laws.FnExactDistancesOf", spec := "fnExactDistancesOf", unfollowed := true, recurses := true, apart := false }
def FnExactDistancesOfSaid : Prop := fnExactDistancesOfRow.holds Try.pinned (OpenSpec.ofChange fnExactDistancesOfSpec)

/-- ITS FALSE NEIGHBOUR: 'it returns false'. Refute it at one input. -/
def fnExactDistancesOfWrong : ChangeSpec := { name := "fnExactDistancesOf", fn := fun _ => fun
  | [d] => { results := [.lit (.bool false)], args := [d] }
  | _ => none }
def FnExactDistancesOfWrongFalsely : Prop := fnExactDistancesOfRow.holds Try.pinned (OpenSpec.ofChange fnExactDistancesOfWrong)

/-- 'laws.FnExactDistanceCounts': WHATEVER THE INPUT: true; the input reads as it did. -/
def fnExactDistanceCountsSpec : ChangeSpec := { name := "fnExactDistanceCounts", fn := fun _ => fun
  | [d] => { results := [.lit (.bool true)], args := [d] }
  | _ => none }
def fnExactDistanceCountsRow : OpenClaim := { program := "ytamlbonkppajbaa", sum := "f2bbe290ac18768447b38527cd9d22d3b872ff4e78feaed84867393eb9f721a5", func := "loop.example/g01112/laws.FnExactDistanceCounts", spec := "fnExactDistanceCounts", unfollowed := true, recurses := true, apart := false }
def FnExactDistanceCountsSaid : Prop := fnExactDistanceCountsRow.holds Try.pinned (OpenSpec.ofChange fnExactDistanceCountsSpec)

/-- ITS FALSE NEIGHBOUR: 'it returns false'. Refute it at one input. -/
def fnExactDistanceCountsWrong : ChangeSpec := { name := "fnExactDistanceCounts", fn := fun _ => fun
  | [d] => { results := [.lit (.bool false)], args := [d] }
  | _ => none }
def FnExactDistanceCountsWrongFalsely : Prop := fnExactDistanceCountsRow.holds Try.pinned (OpenSpec.ofChange fnExactDistanceCountsWrong)

/-- 'laws.FnExactStackOf': WHATEVER THE INPUT: true; the input reads as it did. -/
def fnExactStackOfSpec : ChangeSpec := { name := "fnExactStackOf", fn := fun _ => fun
  | [d] => { results := [.lit (.bool true)], args := [d] }
  | _ => none }
def fnExactStackOfRow : OpenClaim := { program := "ytamlbonkppajbaa", sum := "f2bbe290ac18768447b38527cd9d22d3b872ff4e78feaed84867393eb9f721a5", func := "loop.example/g01112/laws.FnExactStackOf", spec := "fnExactStackOf", unfollowed := true, recurses := true, apart := false }
def FnExactStackOfSaid : Prop := fnExactStackOfRow.holds Try.pinned (OpenSpec.ofChange fnExactStackOfSpec)

/-- ITS FALSE NEIGHBOUR: 'it returns false'. Refute it at one input. -/
def fnExactStackOfWrong : ChangeSpec := { name := "fnExactStackOf", fn := fun _ => fun
  | [d] => { results := [.lit (.bool false)], args := [d] }
  | _ => none }
def FnExactStackOfWrongFalsely : Prop := fnExactStackOfRow.holds Try.pinned (OpenSpec.ofChange fnExactStackOfWrong)

/-- 'laws.FnExactLruCurve': WHATEVER THE INPUT: true; the input reads as it did. -/
def fnExactLruCurveSpec : ChangeSpec := { name := "fnExactLruCurve", fn := fun _ => fun
  | [d1, d2] => { results := [.lit (.bool true)], args := [d1, d2] }
  | _ => none }
def fnExactLruCurveRow : OpenClaim := { program := "ytamlbonkppajbaa", sum := "f2bbe290ac18768447b38527cd9d22d3b872ff4e78feaed84867393eb9f721a5", func := "loop.example/g01112/laws.FnExactLruCurve", spec := "fnExactLruCurve", unfollowed := true, recurses := true, apart := false }
def FnExactLruCurveSaid : Prop := fnExactLruCurveRow.holds Try.pinned (OpenSpec.ofChange fnExactLruCurveSpec)

/-- ITS FALSE NEIGHBOUR: 'it returns false'. Refute it at one input. -/
def fnExactLruCurveWrong : ChangeSpec := { name := "fnExactLruCurve", fn := fun _ => fun
  | [d1, d2] => { results := [.lit (.bool false)], args := [d1, d2] }
  | _ => none }
def FnExactLruCurveWrongFalsely : Prop := fnExactLruCurveRow.holds Try.pinned (OpenSpec.ofChange fnExactLruCurveWrong)

/-- 'laws.FnExactRankStack': WHATEVER THE INPUT: true; the input reads as it did. -/
def fnExactRankStackSpec : ChangeSpec := { name := "fnExactRankStack", fn := fun _ => fun
  | [d1, d2] => { results := [.lit (.bool true)], args := [d1, d2] }
  | _ => none }
def fnExactRankStackRow : OpenClaim := { program := "ytamlbonkppajbaa", sum := "f2bbe290ac18768447b38527cd9d22d3b872ff4e78feaed84867393eb9f721a5", func := "loop.example/g01112/laws.FnExactRankStack", spec := "fnExactRankStack", unfollowed := true, recurses := true, apart := false }
def FnExactRankStackSaid : Prop := fnExactRankStackRow.holds Try.pinned (OpenSpec.ofChange fnExactRankStackSpec)

/-- ITS FALSE NEIGHBOUR: 'it returns false'. Refute it at one input. -/
def fnExactRankStackWrong : ChangeSpec := { name := "fnExactRankStack", fn := fun _ => fun
  | [d1, d2] => { results := [.lit (.bool false)], args := [d1, d2] }
  | _ => none }
def FnExactRankStackWrongFalsely : Prop := fnExactRankStackRow.holds Try.pinned (OpenSpec.ofChange fnExactRankStackWrong)

/-- 'laws.FnExactRankCurve': WHATEVER THE INPUT: true; the input reads as it did. -/
def fnExactRankCurveSpec : ChangeSpec := { name := "fnExactRankCurve", fn := fun _ => fun
  | [d1, d2, d3] => { results := [.lit (.bool true)], args := [d1, d2, d3] }
  | _ => none }
def fnExactRankCurveRow : OpenClaim := { program := "ytamlbonkppajbaa", sum := "f2bbe290ac18768447b38527cd9d22d3b872ff4e78feaed84867393eb9f721a5", func := "loop.example/g01112/laws.FnExactRankCurve", spec := "fnExactRankCurve", unfollowed := true, recurses := true, apart := false }
def FnExactRankCurveSaid : Prop := fnExactRankCurveRow.holds Try.pinned (OpenSpec.ofChange fnExactRankCurveSpec)

/-- ITS FALSE NEIGHBOUR: 'it returns false'. Refute it at one input. -/
def fnExactRankCurveWrong : ChangeSpec := { name := "fnExactRankCurve", fn := fun _ => fun
  | [d1, d2, d3] => { results := [.lit (.bool false)], args := [d1, d2, d3] }
  | _ => none }
def FnExactRankCurveWrongFalsely : Prop := fnExactRankCurveRow.holds Try.pinned (OpenSpec.ofChange fnExactRankCurveWrong)

/-- 'laws.FnExactShareMisses': WHATEVER THE INPUT: true; the input reads as it did. -/
def fnExactShareMissesSpec : ChangeSpec := { name := "fnExactShareMisses", fn := fun _ => fun
  | [d1, d2] => { results := [.lit (.bool true)], args := [d1, d2] }
  | _ => none }
def fnExactShareMissesRow : OpenClaim := { program := "ytamlbonkppajbaa", sum := "f2bbe290ac18768447b38527cd9d22d3b872ff4e78feaed84867393eb9f721a5", func := "loop.example/g01112/laws.FnExactShareMisses", spec := "fnExactShareMisses", unfollowed := true, recurses := true, apart := false }
def FnExactShareMissesSaid : Prop := fnExactShareMissesRow.holds Try.pinned (OpenSpec.ofChange fnExactShareMissesSpec)

/-- ITS FALSE NEIGHBOUR: 'it returns false'. Refute it at one input. -/
def fnExactShareMissesWrong : ChangeSpec := { name := "fnExactShareMisses", fn := fun _ => fun
  | [d1, d2] => { results := [.lit (.bool false)], args := [d1, d2] }
  | _ => none }
def FnExactShareMissesWrongFalsely : Prop := fnExactShareMissesRow.holds Try.pinned (OpenSpec.ofChange fnExactShareMissesWrong)

/- THE SECOND FORM. 'bulk': how many values and letters a reading holds, each counted each time it is reached (what is shared counts as often as it is met; a slice's spare places count too). A statement '..UptoSaid' is the law's where the arguments, and the package variables that the reading takes, are together of bulk at most 1048576: NARROWER than '..Said'. Prove '..Said' where nothing that the law and all that it calls make is longer than what came in: it says more and counts as full. Else prove '..UptoSaid'. A law counts once. -/
mutual
def uptoBulk {H : Type} : DataW H → Nat
  | .lit (.string bytes) => bytes.length + 1
  | .lit _ => 1
  | .nil => 1
  | .ptr d => uptoBulk d + 1
  | .slice elems spare => uptoBulkAll elems + uptoBulkAll spare + 1
  | .agg parts => uptoBulkAll parts + 1
  | .iface _ d => uptoBulk d + 1
  | .map entries => uptoBulkEntries entries + 1
  | .held _ => 1
def uptoBulkAll {H : Type} : List (DataW H) → Nat
  | [] => 0
  | d :: r => uptoBulk d + uptoBulkAll r
def uptoBulkEntries {H : Type} : List (Lit × DataW H) → Nat
  | [] => 0
  | x :: r => uptoBulkEntry x + uptoBulkEntries r
def uptoBulkEntry {H : Type} : Lit × DataW H → Nat
  | (.string bytes, d) => bytes.length + uptoBulk d + 1
  | (_, d) => uptoBulk d + 1
 end
def uptoSmall : (H : Type) → List (DataW H) → Bool := fun _ ds => decide (uptoBulkAll ds ≤ 1048576)
def OpenSpec.upto (s : _root_.Go.ChangeSpec) : _root_.Go.OpenSpec := { _root_.Go.OpenSpec.ofChange s with cond := some uptoSmall }

/-- 'laws.FnExactValidRanks', WHERE WHAT IT READS IS OF BULK AT MOST 1048576: true; the input reads as it did. -/
def fnExactValidRanksUptoRow : OpenClaim := { program := "ytamlbonkppajbaa", sum := "f2bbe290ac18768447b38527cd9d22d3b872ff4e78feaed84867393eb9f721a5", func := "loop.example/g01112/laws.FnExactValidRanks", spec := "fnExactValidRanks", apart := false, narrowed := true }
def FnExactValidRanksUptoSaid : Prop := fnExactValidRanksUptoRow.holds Try.pinned (OpenSpec.upto fnExactValidRanksSpec)

/-- 'laws.FnExactDistancesOf', WHERE WHAT IT READS IS OF BULK AT MOST 1048576: true; the input reads as it did. -/
def fnExactDistancesOfUptoRow : OpenClaim := { program := "ytamlbonkppajbaa", sum := "f2bbe290ac18768447b38527cd9d22d3b872ff4e78feaed84867393eb9f721a5", func := "loop.example/g01112/laws.FnExactDistancesOf", spec := "fnExactDistancesOf", unfollowed := true, recurses := true, apart := false, narrowed := true }
def FnExactDistancesOfUptoSaid : Prop := fnExactDistancesOfUptoRow.holds Try.pinned (OpenSpec.upto fnExactDistancesOfSpec)

/-- 'laws.FnExactDistanceCounts', WHERE WHAT IT READS IS OF BULK AT MOST 1048576: true; the input reads as it did. -/
def fnExactDistanceCountsUptoRow : OpenClaim := { program := "ytamlbonkppajbaa", sum := "f2bbe290ac18768447b38527cd9d22d3b872ff4e78feaed84867393eb9f721a5", func := "loop.example/g01112/laws.FnExactDistanceCounts", spec := "fnExactDistanceCounts", unfollowed := true, recurses := true, apart := false, narrowed := true }
def FnExactDistanceCountsUptoSaid : Prop := fnExactDistanceCountsUptoRow.holds Try.pinned (OpenSpec.upto fnExactDistanceCountsSpec)

/-- 'laws.FnExactStackOf', WHERE WHAT IT READS IS OF BULK AT MOST 1048576: true; the input reads as it did. -/
def fnExactStackOfUptoRow : OpenClaim := { program := "ytamlbonkppajbaa", sum := "f2bbe290ac18768447b38527cd9d22d3b872ff4e78feaed84867393eb9f721a5", func := "loop.example/g01112/laws.FnExactStackOf", spec := "fnExactStackOf", unfollowed := true, recurses := true, apart := false, narrowed := true }
def FnExactStackOfUptoSaid : Prop := fnExactStackOfUptoRow.holds Try.pinned (OpenSpec.upto fnExactStackOfSpec)

/-- 'laws.FnExactLruCurve', WHERE WHAT IT READS IS OF BULK AT MOST 1048576: true; the input reads as it did. -/
def fnExactLruCurveUptoRow : OpenClaim := { program := "ytamlbonkppajbaa", sum := "f2bbe290ac18768447b38527cd9d22d3b872ff4e78feaed84867393eb9f721a5", func := "loop.example/g01112/laws.FnExactLruCurve", spec := "fnExactLruCurve", unfollowed := true, recurses := true, apart := false, narrowed := true }
def FnExactLruCurveUptoSaid : Prop := fnExactLruCurveUptoRow.holds Try.pinned (OpenSpec.upto fnExactLruCurveSpec)

/-- 'laws.FnExactRankStack', WHERE WHAT IT READS IS OF BULK AT MOST 1048576: true; the input reads as it did. -/
def fnExactRankStackUptoRow : OpenClaim := { program := "ytamlbonkppajbaa", sum := "f2bbe290ac18768447b38527cd9d22d3b872ff4e78feaed84867393eb9f721a5", func := "loop.example/g01112/laws.FnExactRankStack", spec := "fnExactRankStack", unfollowed := true, recurses := true, apart := false, narrowed := true }
def FnExactRankStackUptoSaid : Prop := fnExactRankStackUptoRow.holds Try.pinned (OpenSpec.upto fnExactRankStackSpec)

/-- 'laws.FnExactRankCurve', WHERE WHAT IT READS IS OF BULK AT MOST 1048576: true; the input reads as it did. -/
def fnExactRankCurveUptoRow : OpenClaim := { program := "ytamlbonkppajbaa", sum := "f2bbe290ac18768447b38527cd9d22d3b872ff4e78feaed84867393eb9f721a5", func := "loop.example/g01112/laws.FnExactRankCurve", spec := "fnExactRankCurve", unfollowed := true, recurses := true, apart := false, narrowed := true }
def FnExactRankCurveUptoSaid : Prop := fnExactRankCurveUptoRow.holds Try.pinned (OpenSpec.upto fnExactRankCurveSpec)

/-- 'laws.FnExactShareMisses', WHERE WHAT IT READS IS OF BULK AT MOST 1048576: true; the input reads as it did. -/
def fnExactShareMissesUptoRow : OpenClaim := { program := "ytamlbonkppajbaa", sum := "f2bbe290ac18768447b38527cd9d22d3b872ff4e78feaed84867393eb9f721a5", func := "loop.example/g01112/laws.FnExactShareMisses", spec := "fnExactShareMisses", unfollowed := true, recurses := true, apart := false, narrowed := true }
def FnExactShareMissesUptoSaid : Prop := fnExactShareMissesUptoRow.holds Try.pinned (OpenSpec.upto fnExactShareMissesSpec)

end Rows
end Go.Proofs.Ytamlbonkppajbaa
