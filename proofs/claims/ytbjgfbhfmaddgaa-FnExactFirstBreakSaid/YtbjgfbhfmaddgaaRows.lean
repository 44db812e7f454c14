/-
  No cell of these rows narrows 'for every input' (looked for: loops, veiled, ifaces, maps, wideKeys, modest, calm, conditions, laid).
  DERIVED. THE GIVEN ROWS OF THIS SEAT. 3 by the template 'for every input the law returns true; each argument reads behind the call as it read before'; 0 by the template 'total and deterministic' (their statements: YtbjgfbhfmaddgaaTotals.lean).
  GIVEN WITH THE SEED: the statements are not yours to turn. If you find one false, say at which input.
  Laid BY PROGRAM, IN A SANDBOX (cutbox-rows.mjs): the forced cells as the released guide's own fill.sh prints them over the translation 93666f181e6eba52… (all of the seat's roots in one cut). By AI agents, Wed Nov 11 2026. No macro, syntax, notation, axiom, sorry.
-/
import Derived.Test.YtbjgfbhfmaddgaaChecked
import GoSem.Claim
import GoSem.ClaimJoined
import GoSem.ClaimMapViews
import Derived.JoinedTies
import Derived.KernelRfl
namespace Go.Proofs.Ytbjgfbhfmaddgaa
/- THE CELL 'sum', in the pinned program and in every row, IS THE sha256 OF THE DUMP (.gsa) THAT YtbjgfbhfmaddgaaProg.lean LOADS. Nothing in Lean hashes anything: it is a label: what it is worth is what the hold of that sum in a sandbox is worth. -/
noncomputable def Try.pinned : Pinned := { name := "ytbjgfbhfmaddgaa", sum := "93666f181e6eba520a26491d75c2f1548e6fd60dd39a35f46322a0540b83bf84", checked := Try.checked }
namespace Rows
def none {H : Type} : Left H := { results := [], args := [] }

/-- 'laws.FnExactIncludes': WHATEVER THE INPUT: true; the input reads as it did. -/
def fnExactIncludesSpec : ChangeSpec := { name := "fnExactIncludes", fn := fun _ => fun
  | [d1, d2, d3] => { results := [.lit (.bool true)], args := [d1, d2, d3] }
  | _ => none }
def fnExactIncludesRow : OpenClaim := { program := "ytbjgfbhfmaddgaa", sum := "93666f181e6eba520a26491d75c2f1548e6fd60dd39a35f46322a0540b83bf84", func := "loop.example/g01112/laws.FnExactIncludes", spec := "fnExactIncludes", recurses := true, plainKeys := false, apart := false }
def FnExactIncludesSaid : Prop := fnExactIncludesRow.holds Try.pinned (OpenSpec.ofChange fnExactIncludesSpec)

/-- ITS FALSE NEIGHBOUR: 'it returns false'. Refute it at one input. -/
def fnExactIncludesWrong : ChangeSpec := { name := "fnExactIncludes", fn := fun _ => fun
  | [d1, d2, d3] => { results := [.lit (.bool false)], args := [d1, d2, d3] }
  | _ => none }
def FnExactIncludesWrongFalsely : Prop := fnExactIncludesRow.holds Try.pinned (OpenSpec.ofChange fnExactIncludesWrong)

/-- 'laws.FnExactFirstBreak': WHATEVER THE INPUT: true; the input reads as it did. -/
def fnExactFirstBreakSpec : ChangeSpec := { name := "fnExactFirstBreak", fn := fun _ => fun
  | [d1, d2, d3] => { results := [.lit (.bool true)], args := [d1, d2, d3] }
  | _ => none }
def fnExactFirstBreakRow : OpenClaim := { program := "ytbjgfbhfmaddgaa", sum := "93666f181e6eba520a26491d75c2f1548e6fd60dd39a35f46322a0540b83bf84", func := "loop.example/g01112/laws.FnExactFirstBreak", spec := "fnExactFirstBreak", recurses := true, plainKeys := false, apart := false }
def FnExactFirstBreakSaid : Prop := fnExactFirstBreakRow.holds Try.pinned (OpenSpec.ofChange fnExactFirstBreakSpec)

/-- ITS FALSE NEIGHBOUR: 'it returns false'. Refute it at one input. -/
def fnExactFirstBreakWrong : ChangeSpec := { name := "fnExactFirstBreak", fn := fun _ => fun
  | [d1, d2, d3] => { results := [.lit (.bool false)], args := [d1, d2, d3] }
  | _ => none }
def FnExactFirstBreakWrongFalsely : Prop := fnExactFirstBreakRow.holds Try.pinned (OpenSpec.ofChange fnExactFirstBreakWrong)

/-- 'laws.FnLruIncluded': WHATEVER THE INPUT: true; the input reads as it did. -/
def fnLruIncludedSpec : ChangeSpec := { name := "fnLruIncluded", fn := fun _ => fun
  | [d1, d2] => { results := [.lit (.bool true)], args := [d1, d2] }
  | _ => none }
def fnLruIncludedRow : OpenClaim := { program := "ytbjgfbhfmaddgaa", sum := "93666f181e6eba520a26491d75c2f1548e6fd60dd39a35f46322a0540b83bf84", func := "loop.example/g01112/laws.FnLruIncluded", spec := "fnLruIncluded", unfollowed := true, recurses := true, plainKeys := false, apart := false }
def FnLruIncludedSaid : Prop := fnLruIncludedRow.holds Try.pinned (OpenSpec.ofChange fnLruIncludedSpec)

/-- ITS FALSE NEIGHBOUR: 'it returns false'. Refute it at one input. -/
def fnLruIncludedWrong : ChangeSpec := { name := "fnLruIncluded", fn := fun _ => fun
  | [d1, d2] => { results := [.lit (.bool false)], args := [d1, d2] }
  | _ => none }
def FnLruIncludedWrongFalsely : Prop := fnLruIncludedRow.holds Try.pinned (OpenSpec.ofChange fnLruIncludedWrong)

/- THE SECOND FORM. 'bulk': how many values and letters a reading holds, each counted each time it is reached (what is shared counts as often as it is met; a slice's spare places count too). A statement '..UptoSaid' is the law's where the arguments, and the package variables that the reading takes, are together of bulk at most 1048576: NARROWER than '..Said'. Prove '..Said' where nothing that the law and all that it calls make is longer than what came in: it says more and counts as full. Else prove '..UptoSaid'. A law counts once. -/
mutual
def uptoBulk {H : Type} : DataW H → Nat
  | .lit (.string bytes) => bytes.length + 1
  | .lit _ => 1
  | .nil => 1
  | .ptr d => uptoBulk d + 1
  | .slice elems spare => uptoBulkAll elems + uptoBulkAll spare + 1
  | .agg parts => uptoBulkAll parts + 1
  | .iface _ d => uptoBulk d + 1
  | .map entries => uptoBulkEntries entries + 1
  | .held _ => 1
def uptoBulkAll {H : Type} : List (DataW H) → Nat
  | [] => 0
  | d :: r => uptoBulk d + uptoBulkAll r
def uptoBulkEntries {H : Type} : List (Lit × DataW H) → Nat
  | [] => 0
  | x :: r => uptoBulkEntry x + uptoBulkEntries r
def uptoBulkEntry {H : Type} : Lit × DataW H → Nat
  | (.string bytes, d) => bytes.length + uptoBulk d + 1
  | (_, d) => uptoBulk d + 1
 end
def uptoSmall : (H : Type) → List (DataW H) → Bool := fun _ ds => decide (uptoBulkAll ds ≤ 1048576)
def OpenSpec.upto (s : _root_.Go.ChangeSpec) : _root_.Go.OpenSpec := { _root_.Go.OpenSpec.ofChange s with cond := some uptoSmall }

/-- 'laws.FnExactIncludes', WHERE WHAT IT READS IS OF BULK AT MOST 1048576: true; the input reads as it did. -/
def fnExactIncludesUptoRow : OpenClaim := { program := "ytbjgfbhfmaddgaa", sum := "93666f181e6eba520a26491d75c2f1548e6fd60dd39a35f46322a0540b83bf84", func := "loop.example/g01112/laws.FnExactIncludes", spec := "fnExactIncludes", recurses := true, plainKeys := false, apart := false, narrowed := true }
def FnExactIncludesUptoSaid : Prop := fnExactIncludesUptoRow.holds Try.pinned (OpenSpec.upto fnExactIncludesSpec)

/-- 'laws.FnExactFirstBreak', WHERE WHAT IT READS IS OF BULK AT MOST 1048576: true; the input reads as it did. -/
def fnExactFirstBreakUptoRow : OpenClaim := { program := "ytbjgfbhfmaddgaa", sum := "93666f181e6eba520a26491d75c2f1548e6fd60dd39a35f46322a0540b83bf84", func := "loop.example/g01112/laws.FnExactFirstBreak", spec := "fnExactFirstBreak", recurses := true, plainKeys := false, apart := false, narrowed := true }
def FnExactFirstBreakUptoSaid : Prop := fnExactFirstBreakUptoRow.holds Try.pinned (OpenSpec.upto fnExactFirstBreakSpec)

/-- 'laws.FnLruIncluded', WHERE WHAT IT READS IS OF BULK AT MOST 1048576: true; the input reads as it did. -/
def fnLruIncludedUptoRow : OpenClaim := { program := "ytbjgfbhfmaddgaa", sum := "93666f181e6eba520a26491d75c2f1548e6fd60dd39a35f46322a0540b83bf84", func := "loop.example/g01112/laws.FnLruIncluded", spec := "fnLruIncluded", unfollowed := true, recurses := true, plainKeys := false, apart := false, narrowed := true }
def FnLruIncludedUptoSaid : Prop := fnLruIncludedUptoRow.holds Try.pinned (OpenSpec.upto fnLruIncludedSpec)

end Rows
end Go.Proofs.Ytbjgfbhfmaddgaa
