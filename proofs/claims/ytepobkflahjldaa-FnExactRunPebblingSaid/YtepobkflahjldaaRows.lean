/-
  No cell of these rows narrows 'for every input' (looked for: loops, veiled, ifaces, maps, wideKeys, modest, calm, conditions, laid).
  DERIVED. THE GIVEN ROWS OF THIS SEAT. 2 by the template 'for every input the law returns true; each argument reads behind the call as it read before'; 0 by the template 'total and deterministic' (their statements: YtepobkflahjldaaTotals.lean).
  GIVEN WITH THE SEED: the statements are not yours to turn. If you find one false, say at which input.
  Laid BY PROGRAM, IN A SANDBOX (cutbox-rows.mjs): the forced cells as the released guide's own fill.sh prints them over the translation f77d095ac30f0787… (all of the seat's roots in one cut). By AI agents, Wed Nov 11 2026. No macro, syntax, notation, axiom, sorry.
-/
import Derived.Test.YtepobkflahjldaaChecked
import GoSem.Claim
import GoSem.ClaimJoined
import GoSem.ClaimMapViews
import Derived.JoinedTies
import Derived.KernelRfl
namespace Go.Proofs.Ytepobkflahjldaa
/- THE CELL 'sum', in the pinned program and in every row, IS THE sha256 OF THE DUMP (.gsa) THAT YtepobkflahjldaaProg.lean LOADS. Nothing in Lean hashes anything: it is a label: what it is worth is what the hold of that sum in a sandbox is worth. -/
noncomputable def Try.pinned : Pinned := { name := "ytepobkflahjldaa", sum := "f77d095ac30f0787fd42d575ba239192a4113aaeb4ba29f38d7d4df02e68c9e2", checked := Try.checked }
namespace Rows
def none {H : Type} : Left H := { results := [], args := [] }

/-- 'laws.FnExactRunPebbling': WHATEVER THE INPUT: true; the input reads as it did. -/
def fnExactRunPebblingSpec : ChangeSpec := { name := "fnExactRunPebbling", fn := fun _ => fun
  | [d1, d2, d3] => { results := [.lit (.bool true)], args := [d1, d2, d3] }
  | _ => none }
def fnExactRunPebblingRow : OpenClaim := { program := "ytepobkflahjldaa", sum := "f77d095ac30f0787fd42d575ba239192a4113aaeb4ba29f38d7d4df02e68c9e2", func := "loop.example/g01112/laws.FnExactRunPebbling", spec := "fnExactRunPebbling", apart := false }
def FnExactRunPebblingSaid : Prop := fnExactRunPebblingRow.holds Try.pinned (OpenSpec.ofChange fnExactRunPebblingSpec)

/-- ITS FALSE NEIGHBOUR: 'it returns false'. Refute it at one input. -/
def fnExactRunPebblingWrong : ChangeSpec := { name := "fnExactRunPebbling", fn := fun _ => fun
  | [d1, d2, d3] => { results := [.lit (.bool false)], args := [d1, d2, d3] }
  | _ => none }
def FnExactRunPebblingWrongFalsely : Prop := fnExactRunPebblingRow.holds Try.pinned (OpenSpec.ofChange fnExactRunPebblingWrong)

/-- 'laws.FnExactIsPebbling': WHATEVER THE INPUT: true; the input reads as it did. -/
def fnExactIsPebblingSpec : ChangeSpec := { name := "fnExactIsPebbling", fn := fun _ => fun
  | [d1, d2, d3] => { results := [.lit (.bool true)], args := [d1, d2, d3] }
  | _ => none }
def fnExactIsPebblingRow : OpenClaim := { program := "ytepobkflahjldaa", sum := "f77d095ac30f0787fd42d575ba239192a4113aaeb4ba29f38d7d4df02e68c9e2", func := "loop.example/g01112/laws.FnExactIsPebbling", spec := "fnExactIsPebbling", apart := false }
def FnExactIsPebblingSaid : Prop := fnExactIsPebblingRow.holds Try.pinned (OpenSpec.ofChange fnExactIsPebblingSpec)

/-- ITS FALSE NEIGHBOUR: 'it returns false'. Refute it at one input. -/
def fnExactIsPebblingWrong : ChangeSpec := { name := "fnExactIsPebbling", fn := fun _ => fun
  | [d1, d2, d3] => { results := [.lit (.bool false)], args := [d1, d2, d3] }
  | _ => none }
def FnExactIsPebblingWrongFalsely : Prop := fnExactIsPebblingRow.holds Try.pinned (OpenSpec.ofChange fnExactIsPebblingWrong)

/- THE SECOND FORM. 'bulk': how many values and letters a reading holds, each counted each time it is reached (what is shared counts as often as it is met; a slice's spare places count too). A statement '..UptoSaid' is the law's where the arguments, and the package variables that the reading takes, are together of bulk at most 1048576: NARROWER than '..Said'. Prove '..Said' where nothing that the law and all that it calls make is longer than what came in: it says more and counts as full. Else prove '..UptoSaid'. A law counts once. -/
mutual
def uptoBulk {H : Type} : DataW H → Nat
  | .lit (.string bytes) => bytes.length + 1
  | .lit _ => 1
  | .nil => 1
  | .ptr d => uptoBulk d + 1
  | .slice elems spare => uptoBulkAll elems + uptoBulkAll spare + 1
  | .agg parts => uptoBulkAll parts + 1
  | .iface _ d => uptoBulk d + 1
  | .map entries => uptoBulkEntries entries + 1
  | .held _ => 1
def uptoBulkAll {H : Type} : List (DataW H) → Nat
  | [] => 0
  | d :: r => uptoBulk d + uptoBulkAll r
def uptoBulkEntries {H : Type} : List (Lit × DataW H) → Nat
  | [] => 0
  | x :: r => uptoBulkEntry x + uptoBulkEntries r
def uptoBulkEntry {H : Type} : Lit × DataW H → Nat
  | (.string bytes, d) => bytes.length + uptoBulk d + 1
  | (_, d) => uptoBulk d + 1
 end
def uptoSmall : (H : Type) → List (DataW H) → Bool := fun _ ds => decide (uptoBulkAll ds ≤ 1048576)
def OpenSpec.upto (s : _root_.Go.ChangeSpec) : _root_.Go.OpenSpec := { _root_.Go.OpenSpec.ofChange s with cond := some uptoSmall }

/-- 'laws.FnExactRunPebbling', WHERE WHAT IT READS IS OF BULK AT MOST 1048576: true; the input reads as it did. -/
def fnExactRunPebblingUptoRow : OpenClaim := { program := "ytepobkflahjldaa", sum := "f77d095ac30f0787fd42d575ba239192a4113aaeb4ba29f38d7d4df02e68c9e2", func := "loop.example/g01112/laws.FnExactRunPebbling", spec := "fnExactRunPebbling", apart := false, narrowed := true }
def FnExactRunPebblingUptoSaid : Prop := fnExactRunPebblingUptoRow.holds Try.pinned (OpenSpec.upto fnExactRunPebblingSpec)

/-- 'laws.FnExactIsPebbling', WHERE WHAT IT READS IS OF BULK AT MOST 1048576: true; the input reads as it did. -/
def fnExactIsPebblingUptoRow : OpenClaim := { program := "ytepobkflahjldaa", sum := "f77d095ac30f0787fd42d575ba239192a4113aaeb4ba29f38d7d4df02e68c9e2", func := "loop.example/g01112/laws.FnExactIsPebbling", spec := "fnExactIsPebbling", apart := false, narrowed := true }
def FnExactIsPebblingUptoSaid : Prop := fnExactIsPebblingUptoRow.holds Try.pinned (OpenSpec.upto fnExactIsPebblingSpec)

end Rows
end Go.Proofs.Ytepobkflahjldaa
