/-
  No cell of these rows narrows 'for every input' (looked for: loops, veiled, ifaces, maps, wideKeys, modest, calm, conditions, laid).
  DERIVED. THE GIVEN ROWS OF THIS SEAT. 6 by the template 'for every input the law returns true; each argument reads behind the call as it read before'; 0 by the template 'total and deterministic' (their statements: YtmmjdmgnmlhjeaaTotals.lean).
  GIVEN WITH THE SEED: the statements are not yours to turn. If you find one false, say at which input.
  Laid BY PROGRAM, IN A SANDBOX (cutbox-rows.mjs): the forced cells as the released guide's own fill.sh prints them over the translation cfc73cbfc45813f7… (all of the seat's roots in one cut). By AI agents, Wed Nov 11 2026. No macro, syntax, notation, axiom, sorry.
-/
import Derived.Test.YtmmjdmgnmlhjeaaChecked
import GoSem.Claim
import GoSem.ClaimJoined
import GoSem.ClaimMapViews
import Derived.JoinedTies
import Derived.KernelRfl
namespace Go.Proofs.Ytmmjdmgnmlhjeaa
/- THE CELL 'sum', in the pinned program and in every row, IS THE sha256 OF THE DUMP (.gsa) THAT YtmmjdmgnmlhjeaaProg.lean LOADS. Nothing in Lean hashes anything: it is a label: what it is worth is what the hold of that sum in a sandbox is worth. -/
noncomputable def Try.pinned : Pinned := { name := "ytmmjdmgnmlhjeaa", sum := "cfc73cbfc45813f7f9711da48e5da86515d8f3845daa31e0d6922fb891fb8783", checked := Try.checked }
namespace Rows
def none {H : Type} : Left H := { results := [], args := [] }

/-- 'laws.FnExactMsiProtocol': WHATEVER THE INPUT: true; the input reads as it did. -/
def fnExactMsiProtocolSpec : ChangeSpec := { name := "fnExactMsiProtocol", fn := fun _ => fun
  | [d] => { results := [.lit (.bool true)], args := [d] }
  | _ => none }
def fnExactMsiProtocolRow : OpenClaim := { program := "ytmmjdmgnmlhjeaa", sum := "cfc73cbfc45813f7f9711da48e5da86515d8f3845daa31e0d6922fb891fb8783", func := "loop.example/g01112/laws.FnExactMsiProtocol", spec := "fnExactMsiProtocol", apart := false }
def FnExactMsiProtocolSaid : Prop := fnExactMsiProtocolRow.holds Try.pinned (OpenSpec.ofChange fnExactMsiProtocolSpec)

/-- ITS FALSE NEIGHBOUR: 'it returns false'. Refute it at one input. -/
def fnExactMsiProtocolWrong : ChangeSpec := { name := "fnExactMsiProtocol", fn := fun _ => fun
  | [d] => { results := [.lit (.bool false)], args := [d] }
  | _ => none }
def FnExactMsiProtocolWrongFalsely : Prop := fnExactMsiProtocolRow.holds Try.pinned (OpenSpec.ofChange fnExactMsiProtocolWrong)

/-- 'laws.FnExactThroughProtocol': WHATEVER THE INPUT: true; the input reads as it did. -/
def fnExactThroughProtocolSpec : ChangeSpec := { name := "fnExactThroughProtocol", fn := fun _ => fun
  | [d] => { results := [.lit (.bool true)], args := [d] }
  | _ => none }
def fnExactThroughProtocolRow : OpenClaim := { program := "ytmmjdmgnmlhjeaa", sum := "cfc73cbfc45813f7f9711da48e5da86515d8f3845daa31e0d6922fb891fb8783", func := "loop.example/g01112/laws.FnExactThroughProtocol", spec := "fnExactThroughProtocol", apart := false }
def FnExactThroughProtocolSaid : Prop := fnExactThroughProtocolRow.holds Try.pinned (OpenSpec.ofChange fnExactThroughProtocolSpec)

/-- ITS FALSE NEIGHBOUR: 'it returns false'. Refute it at one input. -/
def fnExactThroughProtocolWrong : ChangeSpec := { name := "fnExactThroughProtocol", fn := fun _ => fun
  | [d] => { results := [.lit (.bool false)], args := [d] }
  | _ => none }
def FnExactThroughProtocolWrongFalsely : Prop := fnExactThroughProtocolRow.holds Try.pinned (OpenSpec.ofChange fnExactThroughProtocolWrong)

/-- 'laws.FnExactValidProtocol': WHATEVER THE INPUT: true; the input reads as it did. -/
def fnExactValidProtocolSpec : ChangeSpec := { name := "fnExactValidProtocol", fn := fun _ => fun
  | [d] => { results := [.lit (.bool true)], args := [d] }
  | _ => none }
def fnExactValidProtocolRow : OpenClaim := { program := "ytmmjdmgnmlhjeaa", sum := "cfc73cbfc45813f7f9711da48e5da86515d8f3845daa31e0d6922fb891fb8783", func := "loop.example/g01112/laws.FnExactValidProtocol", spec := "fnExactValidProtocol", apart := false }
def FnExactValidProtocolSaid : Prop := fnExactValidProtocolRow.holds Try.pinned (OpenSpec.ofChange fnExactValidProtocolSpec)

/-- ITS FALSE NEIGHBOUR: 'it returns false'. Refute it at one input. -/
def fnExactValidProtocolWrong : ChangeSpec := { name := "fnExactValidProtocol", fn := fun _ => fun
  | [d] => { results := [.lit (.bool false)], args := [d] }
  | _ => none }
def FnExactValidProtocolWrongFalsely : Prop := fnExactValidProtocolRow.holds Try.pinned (OpenSpec.ofChange fnExactValidProtocolWrong)

/-- 'laws.FnExactChangeRule': WHATEVER THE INPUT: true; the input reads as it did. -/
def fnExactChangeRuleSpec : ChangeSpec := { name := "fnExactChangeRule", fn := fun _ => fun
  | [d1, d2, d3, d4] => { results := [.lit (.bool true)], args := [d1, d2, d3, d4] }
  | _ => none }
def fnExactChangeRuleRow : OpenClaim := { program := "ytmmjdmgnmlhjeaa", sum := "cfc73cbfc45813f7f9711da48e5da86515d8f3845daa31e0d6922fb891fb8783", func := "loop.example/g01112/laws.FnExactChangeRule", spec := "fnExactChangeRule", apart := false }
def FnExactChangeRuleSaid : Prop := fnExactChangeRuleRow.holds Try.pinned (OpenSpec.ofChange fnExactChangeRuleSpec)

/-- ITS FALSE NEIGHBOUR: 'it returns false'. Refute it at one input. -/
def fnExactChangeRuleWrong : ChangeSpec := { name := "fnExactChangeRule", fn := fun _ => fun
  | [d1, d2, d3, d4] => { results := [.lit (.bool false)], args := [d1, d2, d3, d4] }
  | _ => none }
def FnExactChangeRuleWrongFalsely : Prop := fnExactChangeRuleRow.holds Try.pinned (OpenSpec.ofChange fnExactChangeRuleWrong)

/-- 'laws.FnExactValidSystem': WHATEVER THE INPUT: true; the input reads as it did. -/
def fnExactValidSystemSpec : ChangeSpec := { name := "fnExactValidSystem", fn := fun _ => fun
  | [d] => { results := [.lit (.bool true)], args := [d] }
  | _ => none }
def fnExactValidSystemRow : OpenClaim := { program := "ytmmjdmgnmlhjeaa", sum := "cfc73cbfc45813f7f9711da48e5da86515d8f3845daa31e0d6922fb891fb8783", func := "loop.example/g01112/laws.FnExactValidSystem", spec := "fnExactValidSystem", apart := false }
def FnExactValidSystemSaid : Prop := fnExactValidSystemRow.holds Try.pinned (OpenSpec.ofChange fnExactValidSystemSpec)

/-- ITS FALSE NEIGHBOUR: 'it returns false'. Refute it at one input. -/
def fnExactValidSystemWrong : ChangeSpec := { name := "fnExactValidSystem", fn := fun _ => fun
  | [d] => { results := [.lit (.bool false)], args := [d] }
  | _ => none }
def FnExactValidSystemWrongFalsely : Prop := fnExactValidSystemRow.holds Try.pinned (OpenSpec.ofChange fnExactValidSystemWrong)

/-- 'laws.FnExactValidLitmus': WHATEVER THE INPUT: true; the input reads as it did. -/
def fnExactValidLitmusSpec : ChangeSpec := { name := "fnExactValidLitmus", fn := fun _ => fun
  | [d] => { results := [.lit (.bool true)], args := [d] }
  | _ => none }
def fnExactValidLitmusRow : OpenClaim := { program := "ytmmjdmgnmlhjeaa", sum := "cfc73cbfc45813f7f9711da48e5da86515d8f3845daa31e0d6922fb891fb8783", func := "loop.example/g01112/laws.FnExactValidLitmus", spec := "fnExactValidLitmus", apart := false }
def FnExactValidLitmusSaid : Prop := fnExactValidLitmusRow.holds Try.pinned (OpenSpec.ofChange fnExactValidLitmusSpec)

/-- ITS FALSE NEIGHBOUR: 'it returns false'. Refute it at one input. -/
def fnExactValidLitmusWrong : ChangeSpec := { name := "fnExactValidLitmus", fn := fun _ => fun
  | [d] => { results := [.lit (.bool false)], args := [d] }
  | _ => none }
def FnExactValidLitmusWrongFalsely : Prop := fnExactValidLitmusRow.holds Try.pinned (OpenSpec.ofChange fnExactValidLitmusWrong)

/- THE SECOND FORM. 'bulk': how many values and letters a reading holds, each counted each time it is reached (what is shared counts as often as it is met; a slice's spare places count too). A statement '..UptoSaid' is the law's where the arguments, and the package variables that the reading takes, are together of bulk at most 1048576: NARROWER than '..Said'. Prove '..Said' where nothing that the law and all that it calls make is longer than what came in: it says more and counts as full. Else prove '..UptoSaid'. A law counts once. -/
mutual
def uptoBulk {H : Type} : DataW H → Nat
  | .lit (.string bytes) => bytes.length + 1
  | .lit _ => 1
  | .nil => 1
  | .ptr d => uptoBulk d + 1
  | .slice elems spare => uptoBulkAll elems + uptoBulkAll spare + 1
  | .agg parts => uptoBulkAll parts + 1
  | .iface _ d => uptoBulk d + 1
  | .map entries => uptoBulkEntries entries + 1
  | .held _ => 1
def uptoBulkAll {H : Type} : List (DataW H) → Nat
  | [] => 0
  | d :: r => uptoBulk d + uptoBulkAll r
def uptoBulkEntries {H : Type} : List (Lit × DataW H) → Nat
  | [] => 0
  | x :: r => uptoBulkEntry x + uptoBulkEntries r
def uptoBulkEntry {H : Type} : Lit × DataW H → Nat
  | (.string bytes, d) => bytes.length + uptoBulk d + 1
  | (_, d) => uptoBulk d + 1
 end
def uptoSmall : (H : Type) → List (DataW H) → Bool := fun _ ds => decide (uptoBulkAll ds ≤ 1048576)
def OpenSpec.upto (s : _root_.Go.ChangeSpec) : _root_.Go.OpenSpec := { _root_.Go.OpenSpec.ofChange s with cond := some uptoSmall }

/-- 'laws.FnExactMsiProtocol', WHERE WHAT IT READS IS OF BULK AT MOST 1048576: true; the input reads as it did. -/
def fnExactMsiProtocolUptoRow : OpenClaim := { program := "ytmmjdmgnmlhjeaa", sum := "cfc73cbfc45813f7f9711da48e5da86515d8f3845daa31e0d6922fb891fb8783", func := "loop.example/g01112/laws.FnExactMsiProtocol", spec := "fnExactMsiProtocol", apart := false, narrowed := true }
def FnExactMsiProtocolUptoSaid : Prop := fnExactMsiProtocolUptoRow.holds Try.pinned (OpenSpec.upto fnExactMsiProtocolSpec)

/-- 'laws.FnExactThroughProtocol', WHERE WHAT IT READS IS OF BULK AT MOST 1048576: true; the input reads as it did. -/
def fnExactThroughProtocolUptoRow : OpenClaim := { program := "ytmmjdmgnmlhjeaa", sum := "cfc73cbfc45813f7f9711da48e5da86515d8f3845daa31e0d6922fb891fb8783", func := "loop.example/g01112/laws.FnExactThroughProtocol", spec := "fnExactThroughProtocol", apart := false, narrowed := true }
def FnExactThroughProtocolUptoSaid : Prop := fnExactThroughProtocolUptoRow.holds Try.pinned (OpenSpec.upto fnExactThroughProtocolSpec)

/-- 'laws.FnExactValidProtocol', WHERE WHAT IT READS IS OF BULK AT MOST 1048576: true; the input reads as it did. -/
def fnExactValidProtocolUptoRow : OpenClaim := { program := "ytmmjdmgnmlhjeaa", sum := "cfc73cbfc45813f7f9711da48e5da86515d8f3845daa31e0d6922fb891fb8783", func := "loop.example/g01112/laws.FnExactValidProtocol", spec := "fnExactValidProtocol", apart := false, narrowed := true }
def FnExactValidProtocolUptoSaid : Prop := fnExactValidProtocolUptoRow.holds Try.pinned (OpenSpec.upto fnExactValidProtocolSpec)

/-- 'laws.FnExactChangeRule', WHERE WHAT IT READS IS OF BULK AT MOST 1048576: true; the input reads as it did. -/
def fnExactChangeRuleUptoRow : OpenClaim := { program := "ytmmjdmgnmlhjeaa", sum := "cfc73cbfc45813f7f9711da48e5da86515d8f3845daa31e0d6922fb891fb8783", func := "loop.example/g01112/laws.FnExactChangeRule", spec := "fnExactChangeRule", apart := false, narrowed := true }
def FnExactChangeRuleUptoSaid : Prop := fnExactChangeRuleUptoRow.holds Try.pinned (OpenSpec.upto fnExactChangeRuleSpec)

/-- 'laws.FnExactValidSystem', WHERE WHAT IT READS IS OF BULK AT MOST 1048576: true; the input reads as it did. -/
def fnExactValidSystemUptoRow : OpenClaim := { program := "ytmmjdmgnmlhjeaa", sum := "cfc73cbfc45813f7f9711da48e5da86515d8f3845daa31e0d6922fb891fb8783", func := "loop.example/g01112/laws.FnExactValidSystem", spec := "fnExactValidSystem", apart := false, narrowed := true }
def FnExactValidSystemUptoSaid : Prop := fnExactValidSystemUptoRow.holds Try.pinned (OpenSpec.upto fnExactValidSystemSpec)

/-- 'laws.FnExactValidLitmus', WHERE WHAT IT READS IS OF BULK AT MOST 1048576: true; the input reads as it did. -/
def fnExactValidLitmusUptoRow : OpenClaim := { program := "ytmmjdmgnmlhjeaa", sum := "cfc73cbfc45813f7f9711da48e5da86515d8f3845daa31e0d6922fb891fb8783", func := "loop.example/g01112/laws.FnExactValidLitmus", spec := "fnExactValidLitmus", apart := false, narrowed := true }
def FnExactValidLitmusUptoSaid : Prop := fnExactValidLitmusUptoRow.holds Try.pinned (OpenSpec.upto fnExactValidLitmusSpec)

end Rows
end Go.Proofs.Ytmmjdmgnmlhjeaa
