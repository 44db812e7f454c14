/-
  No cell of these rows narrows 'for every input' (looked for: loops, veiled, ifaces, maps, wideKeys, modest, calm, conditions, laid).
  DERIVED. THE GIVEN ROWS OF THIS SEAT. 4 by the template 'for every input the law returns true; each argument reads behind the call as it read before'; 0 by the template 'total and deterministic' (their statements: YtdjkmffekfbbcaaTotals.lean).
  GIVEN WITH THE SEED: the statements are not yours to turn. If you find one false, say at which input.
  Laid BY PROGRAM, IN A SANDBOX (cutbox-rows.mjs): the forced cells as the released guide's own fill.sh prints them over the translation 629d39e0d9840fbd… (all of the seat's roots in one cut). By AI agents, Wed Nov 11 2026. No macro, syntax, notation, axiom, sorry.
-/
import Derived.Test.YtdjkmffekfbbcaaChecked
import GoSem.Claim
import GoSem.ClaimJoined
import GoSem.ClaimMapViews
import Derived.JoinedTies
import Derived.KernelRfl
namespace Go.Proofs.Ytdjkmffekfbbcaa
/- THE CELL 'sum', in the pinned program and in every row, IS THE sha256 OF THE DUMP (.gsa) THAT YtdjkmffekfbbcaaProg.lean LOADS. Nothing in Lean hashes anything: it is a label: what it is worth is what the hold of that sum in a sandbox is worth. -/
noncomputable def Try.pinned : Pinned := { name := "ytdjkmffekfbbcaa", sum := "629d39e0d9840fbd091645fe1e007667d316724b2263bdcf5d13aac4b51bcc98", checked := Try.checked }
namespace Rows
def none {H : Type} : Left H := { results := [], args := [] }

/-- 'laws.FnExactClockRun': WHATEVER THE INPUT: true; the input reads as it did. -/
def fnExactClockRunSpec : ChangeSpec := { name := "fnExactClockRun", fn := fun _ => fun
  | [d1, d2] => { results := [.lit (.bool true)], args := [d1, d2] }
  | _ => none }
def fnExactClockRunRow : OpenClaim := { program := "ytdjkmffekfbbcaa", sum := "629d39e0d9840fbd091645fe1e007667d316724b2263bdcf5d13aac4b51bcc98", func := "loop.example/g01112/laws.FnExactClockRun", spec := "fnExactClockRun", unfollowed := true, recurses := true, apart := false }
def FnExactClockRunSaid : Prop := fnExactClockRunRow.holds Try.pinned (OpenSpec.ofChange fnExactClockRunSpec)

/-- ITS FALSE NEIGHBOUR: 'it returns false'. Refute it at one input. -/
def fnExactClockRunWrong : ChangeSpec := { name := "fnExactClockRun", fn := fun _ => fun
  | [d1, d2] => { results := [.lit (.bool false)], args := [d1, d2] }
  | _ => none }
def FnExactClockRunWrongFalsely : Prop := fnExactClockRunRow.holds Try.pinned (OpenSpec.ofChange fnExactClockRunWrong)

/-- 'laws.FnExactSetFaults': WHATEVER THE INPUT: true; the input reads as it did. -/
def fnExactSetFaultsSpec : ChangeSpec := { name := "fnExactSetFaults", fn := fun _ => fun
  | [d1, d2] => { results := [.lit (.bool true)], args := [d1, d2] }
  | _ => none }
def fnExactSetFaultsRow : OpenClaim := { program := "ytdjkmffekfbbcaa", sum := "629d39e0d9840fbd091645fe1e007667d316724b2263bdcf5d13aac4b51bcc98", func := "loop.example/g01112/laws.FnExactSetFaults", spec := "fnExactSetFaults", unfollowed := true, recurses := true, apart := false }
def FnExactSetFaultsSaid : Prop := fnExactSetFaultsRow.holds Try.pinned (OpenSpec.ofChange fnExactSetFaultsSpec)

/-- ITS FALSE NEIGHBOUR: 'it returns false'. Refute it at one input. -/
def fnExactSetFaultsWrong : ChangeSpec := { name := "fnExactSetFaults", fn := fun _ => fun
  | [d1, d2] => { results := [.lit (.bool false)], args := [d1, d2] }
  | _ => none }
def FnExactSetFaultsWrongFalsely : Prop := fnExactSetFaultsRow.holds Try.pinned (OpenSpec.ofChange fnExactSetFaultsWrong)

/-- 'laws.FnSetFaults': WHATEVER THE INPUT: true; the input reads as it did. -/
def fnSetFaultsSpec : ChangeSpec := { name := "fnSetFaults", fn := fun _ => fun
  | [d1, d2] => { results := [.lit (.bool true)], args := [d1, d2] }
  | _ => none }
def fnSetFaultsRow : OpenClaim := { program := "ytdjkmffekfbbcaa", sum := "629d39e0d9840fbd091645fe1e007667d316724b2263bdcf5d13aac4b51bcc98", func := "loop.example/g01112/laws.FnSetFaults", spec := "fnSetFaults", unfollowed := true, recurses := true, apart := false }
def FnSetFaultsSaid : Prop := fnSetFaultsRow.holds Try.pinned (OpenSpec.ofChange fnSetFaultsSpec)

/-- ITS FALSE NEIGHBOUR: 'it returns false'. Refute it at one input. -/
def fnSetFaultsWrong : ChangeSpec := { name := "fnSetFaults", fn := fun _ => fun
  | [d1, d2] => { results := [.lit (.bool false)], args := [d1, d2] }
  | _ => none }
def FnSetFaultsWrongFalsely : Prop := fnSetFaultsRow.holds Try.pinned (OpenSpec.ofChange fnSetFaultsWrong)

/-- 'laws.FnDemand': WHATEVER THE INPUT: true; the input reads as it did. -/
def fnDemandSpec : ChangeSpec := { name := "fnDemand", fn := fun _ => fun
  | [d1, d2] => { results := [.lit (.bool true)], args := [d1, d2] }
  | _ => none }
def fnDemandRow : OpenClaim := { program := "ytdjkmffekfbbcaa", sum := "629d39e0d9840fbd091645fe1e007667d316724b2263bdcf5d13aac4b51bcc98", func := "loop.example/g01112/laws.FnDemand", spec := "fnDemand", unfollowed := true, recurses := true, apart := false }
def FnDemandSaid : Prop := fnDemandRow.holds Try.pinned (OpenSpec.ofChange fnDemandSpec)

/-- ITS FALSE NEIGHBOUR: 'it returns false'. Refute it at one input. -/
def fnDemandWrong : ChangeSpec := { name := "fnDemand", fn := fun _ => fun
  | [d1, d2] => { results := [.lit (.bool false)], args := [d1, d2] }
  | _ => none }
def FnDemandWrongFalsely : Prop := fnDemandRow.holds Try.pinned (OpenSpec.ofChange fnDemandWrong)

/- THE SECOND FORM. 'bulk': how many values and letters a reading holds, each counted each time it is reached (what is shared counts as often as it is met; a slice's spare places count too). A statement '..UptoSaid' is the law's where the arguments, and the package variables that the reading takes, are together of bulk at most 1048576: NARROWER than '..Said'. Prove '..Said' where nothing that the law and all that it calls make is longer than what came in: it says more and counts as full. Else prove '..UptoSaid'. A law counts once. -/
mutual
def uptoBulk {H : Type} : DataW H → Nat
  | .lit (.string bytes) => bytes.length + 1
  | .lit _ => 1
  | .nil => 1
  | .ptr d => uptoBulk d + 1
  | .slice elems spare => uptoBulkAll elems + uptoBulkAll spare + 1
  | .agg parts => uptoBulkAll parts + 1
  | .iface _ d => uptoBulk d + 1
  | .map entries => uptoBulkEntries entries + 1
  | .held _ => 1
def uptoBulkAll {H : Type} : List (DataW H) → Nat
  | [] => 0
  | d :: r => uptoBulk d + uptoBulkAll r
def uptoBulkEntries {H : Type} : List (Lit × DataW H) → Nat
  | [] => 0
  | x :: r => uptoBulkEntry x + uptoBulkEntries r
def uptoBulkEntry {H : Type} : Lit × DataW H → Nat
  | (.string bytes, d) => bytes.length + uptoBulk d + 1
  | (_, d) => uptoBulk d + 1
 end
def uptoSmall : (H : Type) → List (DataW H) → Bool := fun _ ds => decide (uptoBulkAll ds ≤ 1048576)
def OpenSpec.upto (s : _root_.Go.ChangeSpec) : _root_.Go.OpenSpec := { _root_.Go.OpenSpec.ofChange s with cond := some uptoSmall }

/-- 'laws.FnExactClockRun', WHERE WHAT IT READS IS OF BULK AT MOST 1048576: true; the input reads as it did. -/
def fnExactClockRunUptoRow : OpenClaim := { program := "ytdjkmffekfbbcaa", sum := "629d39e0d9840fbd091645fe1e007667d316724b2263bdcf5d13aac4b51bcc98", func := "loop.example/g01112/laws.FnExactClockRun", spec := "fnExactClockRun", unfollowed := true, recurses := true, apart := false, narrowed := true }
def FnExactClockRunUptoSaid : Prop := fnExactClockRunUptoRow.holds Try.pinned (OpenSpec.upto fnExactClockRunSpec)

/-- 'laws.FnExactSetFaults', WHERE WHAT IT READS IS OF BULK AT MOST 1048576: true; the input reads as it did. -/
def fnExactSetFaultsUptoRow : OpenClaim := { program := "ytdjkmffekfbbcaa", sum := "629d39e0d9840fbd091645fe1e007667d316724b2263bdcf5d13aac4b51bcc98", func := "loop.example/g01112/laws.FnExactSetFaults", spec := "fnExactSetFaults", unfollowed := true, recurses := true, apart := false, narrowed := true }
def FnExactSetFaultsUptoSaid : Prop := fnExactSetFaultsUptoRow.holds Try.pinned (OpenSpec.upto fnExactSetFaultsSpec)

/-- 'laws.FnSetFaults', WHERE WHAT IT READS IS OF BULK AT MOST 1048576: true; the input reads as it did. -/
def fnSetFaultsUptoRow : OpenClaim := { program := "ytdjkmffekfbbcaa", sum := "629d39e0d9840fbd091645fe1e007667d316724b2263bdcf5d13aac4b51bcc98", func := "loop.example/g01112/laws.FnSetFaults", spec := "fnSetFaults", unfollowed := true, recurses := true, apart := false, narrowed := true }
def FnSetFaultsUptoSaid : Prop := fnSetFaultsUptoRow.holds Try.pinned (OpenSpec.upto fnSetFaultsSpec)

/-- 'laws.FnDemand', WHERE WHAT IT READS IS OF BULK AT MOST 1048576: true; the input reads as it did. -/
def fnDemandUptoRow : OpenClaim := { program := "ytdjkmffekfbbcaa", sum := "629d39e0d9840fbd091645fe1e007667d316724b2263bdcf5d13aac4b51bcc98", func := "loop.example/g01112/laws.FnDemand", spec := "fnDemand", unfollowed := true, recurses := true, apart := false, narrowed := true }
def FnDemandUptoSaid : Prop := fnDemandUptoRow.holds Try.pinned (OpenSpec.upto fnDemandSpec)

end Rows
end Go.Proofs.Ytdjkmffekfbbcaa
