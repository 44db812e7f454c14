/-
  No cell of these rows narrows 'for every input' (looked for: loops, veiled, ifaces, maps, wideKeys, modest, calm, conditions, laid).
  DERIVED. THE GIVEN ROWS OF THIS SEAT. 9 by the template 'for every input the law returns true; each argument reads behind the call as it read before'; 0 by the template 'total and deterministic' (their statements: YtlpooiihoiddbaaTotals.lean).
  GIVEN WITH THE SEED: the statements are not yours to turn. If you find one false, say at which input.
  Laid BY PROGRAM, IN A SANDBOX (cutbox-rows.mjs): the forced cells as the released guide's own fill.sh prints them over the translation 72b6a496864f3156… (all of the seat's roots in one cut). By AI agents, Wed Nov 11 2026. No macro, syntax, notation, axiom, sorry.
-/
import Derived.Test.YtlpooiihoiddbaaChecked
import GoSem.Claim
import GoSem.ClaimJoined
import GoSem.ClaimMapViews
import Derived.JoinedTies
import Derived.KernelRfl
namespace Go.Proofs.Ytlpooiihoiddbaa
/- THE CELL 'sum', in the pinned program and in every row, IS THE sha256 OF THE DUMP (.gsa) THAT YtlpooiihoiddbaaProg.lean LOADS. Nothing in Lean hashes anything: it is a label: what it is worth is what the hold of that sum in a sandbox is worth. -/
noncomputable def Try.pinned : Pinned := { name := "ytlpooiihoiddbaa", sum := "72b6a496864f3156d055145e60c760e669120d16bb4c66d9eb99c1c27ad3aab5", checked := Try.checked }
namespace Rows
def none {H : Type} : Left H := { results := [], args := [] }

/-- 'laws.FnExactValidUses': WHATEVER THE INPUT: true; the input reads as it did. -/
def fnExactValidUsesSpec : ChangeSpec := { name := "fnExactValidUses", fn := fun _ => fun
  | [d] => { results := [.lit (.bool true)], args := [d] }
  | _ => none }
def fnExactValidUsesRow : OpenClaim := { program := "ytlpooiihoiddbaa", sum := "72b6a496864f3156d055145e60c760e669120d16bb4c66d9eb99c1c27ad3aab5", func := "loop.example/g01112/laws.FnExactValidUses", spec := "fnExactValidUses", apart := false }
def FnExactValidUsesSaid : Prop := fnExactValidUsesRow.holds Try.pinned (OpenSpec.ofChange fnExactValidUsesSpec)

/-- ITS FALSE NEIGHBOUR: 'it returns false'. Refute it at one input. -/
def fnExactValidUsesWrong : ChangeSpec := { name := "fnExactValidUses", fn := fun _ => fun
  | [d] => { results := [.lit (.bool false)], args := [d] }
  | _ => none }
def FnExactValidUsesWrongFalsely : Prop := fnExactValidUsesRow.holds Try.pinned (OpenSpec.ofChange fnExactValidUsesWrong)

/-- 'laws.FnExactGapsOf': WHATEVER THE INPUT: true; the input reads as it did. -/
def fnExactGapsOfSpec : ChangeSpec := { name := "fnExactGapsOf", fn := fun _ => fun
  | [d] => { results := [.lit (.bool true)], args := [d] }
  | _ => none }
def fnExactGapsOfRow : OpenClaim := { program := "ytlpooiihoiddbaa", sum := "72b6a496864f3156d055145e60c760e669120d16bb4c66d9eb99c1c27ad3aab5", func := "loop.example/g01112/laws.FnExactGapsOf", spec := "fnExactGapsOf", unfollowed := true, recurses := true, apart := false }
def FnExactGapsOfSaid : Prop := fnExactGapsOfRow.holds Try.pinned (OpenSpec.ofChange fnExactGapsOfSpec)

/-- ITS FALSE NEIGHBOUR: 'it returns false'. Refute it at one input. -/
def fnExactGapsOfWrong : ChangeSpec := { name := "fnExactGapsOf", fn := fun _ => fun
  | [d] => { results := [.lit (.bool false)], args := [d] }
  | _ => none }
def FnExactGapsOfWrongFalsely : Prop := fnExactGapsOfRow.holds Try.pinned (OpenSpec.ofChange fnExactGapsOfWrong)

/-- 'laws.FnExactNextUses': WHATEVER THE INPUT: true; the input reads as it did. -/
def fnExactNextUsesSpec : ChangeSpec := { name := "fnExactNextUses", fn := fun _ => fun
  | [d] => { results := [.lit (.bool true)], args := [d] }
  | _ => none }
def fnExactNextUsesRow : OpenClaim := { program := "ytlpooiihoiddbaa", sum := "72b6a496864f3156d055145e60c760e669120d16bb4c66d9eb99c1c27ad3aab5", func := "loop.example/g01112/laws.FnExactNextUses", spec := "fnExactNextUses", unfollowed := true, recurses := true, apart := false }
def FnExactNextUsesSaid : Prop := fnExactNextUsesRow.holds Try.pinned (OpenSpec.ofChange fnExactNextUsesSpec)

/-- ITS FALSE NEIGHBOUR: 'it returns false'. Refute it at one input. -/
def fnExactNextUsesWrong : ChangeSpec := { name := "fnExactNextUses", fn := fun _ => fun
  | [d] => { results := [.lit (.bool false)], args := [d] }
  | _ => none }
def FnExactNextUsesWrongFalsely : Prop := fnExactNextUsesRow.holds Try.pinned (OpenSpec.ofChange fnExactNextUsesWrong)

/-- 'laws.FnExactPhasesOf': WHATEVER THE INPUT: true; the input reads as it did. -/
def fnExactPhasesOfSpec : ChangeSpec := { name := "fnExactPhasesOf", fn := fun _ => fun
  | [d1, d2] => { results := [.lit (.bool true)], args := [d1, d2] }
  | _ => none }
def fnExactPhasesOfRow : OpenClaim := { program := "ytlpooiihoiddbaa", sum := "72b6a496864f3156d055145e60c760e669120d16bb4c66d9eb99c1c27ad3aab5", func := "loop.example/g01112/laws.FnExactPhasesOf", spec := "fnExactPhasesOf", apart := false }
def FnExactPhasesOfSaid : Prop := fnExactPhasesOfRow.holds Try.pinned (OpenSpec.ofChange fnExactPhasesOfSpec)

/-- ITS FALSE NEIGHBOUR: 'it returns false'. Refute it at one input. -/
def fnExactPhasesOfWrong : ChangeSpec := { name := "fnExactPhasesOf", fn := fun _ => fun
  | [d1, d2] => { results := [.lit (.bool false)], args := [d1, d2] }
  | _ => none }
def FnExactPhasesOfWrongFalsely : Prop := fnExactPhasesOfRow.holds Try.pinned (OpenSpec.ofChange fnExactPhasesOfWrong)

/-- 'laws.FnExactOnlyUses': WHATEVER THE INPUT: true; the input reads as it did. -/
def fnExactOnlyUsesSpec : ChangeSpec := { name := "fnExactOnlyUses", fn := fun _ => fun
  | [d1, d2] => { results := [.lit (.bool true)], args := [d1, d2] }
  | _ => none }
def fnExactOnlyUsesRow : OpenClaim := { program := "ytlpooiihoiddbaa", sum := "72b6a496864f3156d055145e60c760e669120d16bb4c66d9eb99c1c27ad3aab5", func := "loop.example/g01112/laws.FnExactOnlyUses", spec := "fnExactOnlyUses", apart := false }
def FnExactOnlyUsesSaid : Prop := fnExactOnlyUsesRow.holds Try.pinned (OpenSpec.ofChange fnExactOnlyUsesSpec)

/-- ITS FALSE NEIGHBOUR: 'it returns false'. Refute it at one input. -/
def fnExactOnlyUsesWrong : ChangeSpec := { name := "fnExactOnlyUses", fn := fun _ => fun
  | [d1, d2] => { results := [.lit (.bool false)], args := [d1, d2] }
  | _ => none }
def FnExactOnlyUsesWrongFalsely : Prop := fnExactOnlyUsesRow.holds Try.pinned (OpenSpec.ofChange fnExactOnlyUsesWrong)

/-- 'laws.FnExactAddressesOf': WHATEVER THE INPUT: true; the input reads as it did. -/
def fnExactAddressesOfSpec : ChangeSpec := { name := "fnExactAddressesOf", fn := fun _ => fun
  | [d] => { results := [.lit (.bool true)], args := [d] }
  | _ => none }
def fnExactAddressesOfRow : OpenClaim := { program := "ytlpooiihoiddbaa", sum := "72b6a496864f3156d055145e60c760e669120d16bb4c66d9eb99c1c27ad3aab5", func := "loop.example/g01112/laws.FnExactAddressesOf", spec := "fnExactAddressesOf", unfollowed := true, recurses := true, apart := false }
def FnExactAddressesOfSaid : Prop := fnExactAddressesOfRow.holds Try.pinned (OpenSpec.ofChange fnExactAddressesOfSpec)

/-- ITS FALSE NEIGHBOUR: 'it returns false'. Refute it at one input. -/
def fnExactAddressesOfWrong : ChangeSpec := { name := "fnExactAddressesOf", fn := fun _ => fun
  | [d] => { results := [.lit (.bool false)], args := [d] }
  | _ => none }
def FnExactAddressesOfWrongFalsely : Prop := fnExactAddressesOfRow.holds Try.pinned (OpenSpec.ofChange fnExactAddressesOfWrong)

/-- 'laws.FnExactWorkingSet': WHATEVER THE INPUT: true; the input reads as it did. -/
def fnExactWorkingSetSpec : ChangeSpec := { name := "fnExactWorkingSet", fn := fun _ => fun
  | [d1, d2, d3] => { results := [.lit (.bool true)], args := [d1, d2, d3] }
  | _ => none }
def fnExactWorkingSetRow : OpenClaim := { program := "ytlpooiihoiddbaa", sum := "72b6a496864f3156d055145e60c760e669120d16bb4c66d9eb99c1c27ad3aab5", func := "loop.example/g01112/laws.FnExactWorkingSet", spec := "fnExactWorkingSet", unfollowed := true, recurses := true, apart := false }
def FnExactWorkingSetSaid : Prop := fnExactWorkingSetRow.holds Try.pinned (OpenSpec.ofChange fnExactWorkingSetSpec)

/-- ITS FALSE NEIGHBOUR: 'it returns false'. Refute it at one input. -/
def fnExactWorkingSetWrong : ChangeSpec := { name := "fnExactWorkingSet", fn := fun _ => fun
  | [d1, d2, d3] => { results := [.lit (.bool false)], args := [d1, d2, d3] }
  | _ => none }
def FnExactWorkingSetWrongFalsely : Prop := fnExactWorkingSetRow.holds Try.pinned (OpenSpec.ofChange fnExactWorkingSetWrong)

/-- 'laws.FnExactWorkingSizes': WHATEVER THE INPUT: true; the input reads as it did. -/
def fnExactWorkingSizesSpec : ChangeSpec := { name := "fnExactWorkingSizes", fn := fun _ => fun
  | [d1, d2] => { results := [.lit (.bool true)], args := [d1, d2] }
  | _ => none }
def fnExactWorkingSizesRow : OpenClaim := { program := "ytlpooiihoiddbaa", sum := "72b6a496864f3156d055145e60c760e669120d16bb4c66d9eb99c1c27ad3aab5", func := "loop.example/g01112/laws.FnExactWorkingSizes", spec := "fnExactWorkingSizes", unfollowed := true, recurses := true, apart := false }
def FnExactWorkingSizesSaid : Prop := fnExactWorkingSizesRow.holds Try.pinned (OpenSpec.ofChange fnExactWorkingSizesSpec)

/-- ITS FALSE NEIGHBOUR: 'it returns false'. Refute it at one input. -/
def fnExactWorkingSizesWrong : ChangeSpec := { name := "fnExactWorkingSizes", fn := fun _ => fun
  | [d1, d2] => { results := [.lit (.bool false)], args := [d1, d2] }
  | _ => none }
def FnExactWorkingSizesWrongFalsely : Prop := fnExactWorkingSizesRow.holds Try.pinned (OpenSpec.ofChange fnExactWorkingSizesWrong)

/-- 'laws.FnExactCanonicalUses': WHATEVER THE INPUT: true; the input reads as it did. -/
def fnExactCanonicalUsesSpec : ChangeSpec := { name := "fnExactCanonicalUses", fn := fun _ => fun
  | [d] => { results := [.lit (.bool true)], args := [d] }
  | _ => none }
def fnExactCanonicalUsesRow : OpenClaim := { program := "ytlpooiihoiddbaa", sum := "72b6a496864f3156d055145e60c760e669120d16bb4c66d9eb99c1c27ad3aab5", func := "loop.example/g01112/laws.FnExactCanonicalUses", spec := "fnExactCanonicalUses", unfollowed := true, recurses := true, apart := false }
def FnExactCanonicalUsesSaid : Prop := fnExactCanonicalUsesRow.holds Try.pinned (OpenSpec.ofChange fnExactCanonicalUsesSpec)

/-- ITS FALSE NEIGHBOUR: 'it returns false'. Refute it at one input. -/
def fnExactCanonicalUsesWrong : ChangeSpec := { name := "fnExactCanonicalUses", fn := fun _ => fun
  | [d] => { results := [.lit (.bool false)], args := [d] }
  | _ => none }
def FnExactCanonicalUsesWrongFalsely : Prop := fnExactCanonicalUsesRow.holds Try.pinned (OpenSpec.ofChange fnExactCanonicalUsesWrong)

/- THE SECOND FORM. 'bulk': how many values and letters a reading holds, each counted each time it is reached (what is shared counts as often as it is met; a slice's spare places count too). A statement '..UptoSaid' is the law's where the arguments, and the package variables that the reading takes, are together of bulk at most 1048576: NARROWER than '..Said'. Prove '..Said' where nothing that the law and all that it calls make is longer than what came in: it says more and counts as full. Else prove '..UptoSaid'. A law counts once. -/
mutual
def uptoBulk {H : Type} : DataW H → Nat
  | .lit (.string bytes) => bytes.length + 1
  | .lit _ => 1
  | .nil => 1
  | .ptr d => uptoBulk d + 1
  | .slice elems spare => uptoBulkAll elems + uptoBulkAll spare + 1
  | .agg parts => uptoBulkAll parts + 1
  | .iface _ d => uptoBulk d + 1
  | .map entries => uptoBulkEntries entries + 1
  | .held _ => 1
def uptoBulkAll {H : Type} : List (DataW H) → Nat
  | [] => 0
  | d :: r => uptoBulk d + uptoBulkAll r
def uptoBulkEntries {H : Type} : List (Lit × DataW H) → Nat
  | [] => 0
  | x :: r => uptoBulkEntry x + uptoBulkEntries r
def uptoBulkEntry {H : Type} : Lit × DataW H → Nat
  | (.string bytes, d) => bytes.length + uptoBulk d + 1
  | (_, d) => uptoBulk d + 1
 end
def uptoSmall : (H : Type) → List (DataW H) → Bool := fun _ ds => decide (uptoBulkAll ds ≤ 1048576)
def OpenSpec.upto (s : _root_.Go.ChangeSpec) : _root_.Go.OpenSpec := { _root_.Go.OpenSpec.ofChange s with cond := some uptoSmall }

/-- 'laws.FnExactValidUses', WHERE WHAT IT READS IS OF BULK AT MOST 1048576: true; the input reads as it did. -/
def fnExactValidUsesUptoRow : OpenClaim := { program := "ytlpooiihoiddbaa", sum := "72b6a496864f3156d055145e60c760e669120d16bb4c66d9eb99c1c27ad3aab5", func := "loop.example/g01112/laws.FnExactValidUses", spec := "fnExactValidUses", apart := false, narrowed := true }
def FnExactValidUsesUptoSaid : Prop := fnExactValidUsesUptoRow.holds Try.pinned (OpenSpec.upto fnExactValidUsesSpec)

/-- 'laws.FnExactGapsOf', WHERE WHAT IT READS IS OF BULK AT MOST 1048576: true; the input reads as it did. -/
def fnExactGapsOfUptoRow : OpenClaim := { program := "ytlpooiihoiddbaa", sum := "72b6a496864f3156d055145e60c760e669120d16bb4c66d9eb99c1c27ad3aab5", func := "loop.example/g01112/laws.FnExactGapsOf", spec := "fnExactGapsOf", unfollowed := true, recurses := true, apart := false, narrowed := true }
def FnExactGapsOfUptoSaid : Prop := fnExactGapsOfUptoRow.holds Try.pinned (OpenSpec.upto fnExactGapsOfSpec)

/-- 'laws.FnExactNextUses', WHERE WHAT IT READS IS OF BULK AT MOST 1048576: true; the input reads as it did. -/
def fnExactNextUsesUptoRow : OpenClaim := { program := "ytlpooiihoiddbaa", sum := "72b6a496864f3156d055145e60c760e669120d16bb4c66d9eb99c1c27ad3aab5", func := "loop.example/g01112/laws.FnExactNextUses", spec := "fnExactNextUses", unfollowed := true, recurses := true, apart := false, narrowed := true }
def FnExactNextUsesUptoSaid : Prop := fnExactNextUsesUptoRow.holds Try.pinned (OpenSpec.upto fnExactNextUsesSpec)

/-- 'laws.FnExactPhasesOf', WHERE WHAT IT READS IS OF BULK AT MOST 1048576: true; the input reads as it did. -/
def fnExactPhasesOfUptoRow : OpenClaim := { program := "ytlpooiihoiddbaa", sum := "72b6a496864f3156d055145e60c760e669120d16bb4c66d9eb99c1c27ad3aab5", func := "loop.example/g01112/laws.FnExactPhasesOf", spec := "fnExactPhasesOf", apart := false, narrowed := true }
def FnExactPhasesOfUptoSaid : Prop := fnExactPhasesOfUptoRow.holds Try.pinned (OpenSpec.upto fnExactPhasesOfSpec)

/-- 'laws.FnExactOnlyUses', WHERE WHAT IT READS IS OF BULK AT MOST 1048576: true; the input reads as it did. -/
def fnExactOnlyUsesUptoRow : OpenClaim := { program := "ytlpooiihoiddbaa", sum := "72b6a496864f3156d055145e60c760e669120d16bb4c66d9eb99c1c27ad3aab5", func := "loop.example/g01112/laws.FnExactOnlyUses", spec := "fnExactOnlyUses", apart := false, narrowed := true }
def FnExactOnlyUsesUptoSaid : Prop := fnExactOnlyUsesUptoRow.holds Try.pinned (OpenSpec.upto fnExactOnlyUsesSpec)

/-- 'laws.FnExactAddressesOf', WHERE WHAT IT READS IS OF BULK AT MOST 1048576: true; the input reads as it did. -/
def fnExactAddressesOfUptoRow : OpenClaim := { program := "ytlpooiihoiddbaa", sum := "72b6a496864f3156d055145e60c760e669120d16bb4c66d9eb99c1c27ad3aab5", func := "loop.example/g01112/laws.FnExactAddressesOf", spec := "fnExactAddressesOf", unfollowed := true, recurses := true, apart := false, narrowed := true }
def FnExactAddressesOfUptoSaid : Prop := fnExactAddressesOfUptoRow.holds Try.pinned (OpenSpec.upto fnExactAddressesOfSpec)

/-- 'laws.FnExactWorkingSet', WHERE WHAT IT READS IS OF BULK AT MOST 1048576: true; the input reads as it did. -/
def fnExactWorkingSetUptoRow : OpenClaim := { program := "ytlpooiihoiddbaa", sum := "72b6a496864f3156d055145e60c760e669120d16bb4c66d9eb99c1c27ad3aab5", func := "loop.example/g01112/laws.FnExactWorkingSet", spec := "fnExactWorkingSet", unfollowed := true, recurses := true, apart := false, narrowed := true }
def FnExactWorkingSetUptoSaid : Prop := fnExactWorkingSetUptoRow.holds Try.pinned (OpenSpec.upto fnExactWorkingSetSpec)

/-- 'laws.FnExactWorkingSizes', WHERE WHAT IT READS IS OF BULK AT MOST 1048576: true; the input reads as it did. -/
def fnExactWorkingSizesUptoRow : OpenClaim := { program := "ytlpooiihoiddbaa", sum := "72b6a496864f3156d055145e60c760e669120d16bb4c66d9eb99c1c27ad3aab5", func := "loop.example/g01112/laws.FnExactWorkingSizes", spec := "fnExactWorkingSizes", unfollowed := true, recurses := true, apart := false, narrowed := true }
def FnExactWorkingSizesUptoSaid : Prop := fnExactWorkingSizesUptoRow.holds Try.pinned (OpenSpec.upto fnExactWorkingSizesSpec)

/-- 'laws.FnExactCanonicalUses', WHERE WHAT IT READS IS OF BULK AT MOST 1048576: true; the input reads as it did. -/
def fnExactCanonicalUsesUptoRow : OpenClaim := { program := "ytlpooiihoiddbaa", sum := "72b6a496864f3156d055145e60c760e669120d16bb4c66d9eb99c1c27ad3aab5", func := "loop.example/g01112/laws.FnExactCanonicalUses", spec := "fnExactCanonicalUses", unfollowed := true, recurses := true, apart := false, narrowed := true }
def FnExactCanonicalUsesUptoSaid : Prop := fnExactCanonicalUsesUptoRow.holds Try.pinned (OpenSpec.upto fnExactCanonicalUsesSpec)

end Rows
end Go.Proofs.Ytlpooiihoiddbaa
