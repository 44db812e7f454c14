/-
  No cell of these rows narrows 'for every input' (looked for: loops, veiled, ifaces, maps, wideKeys, modest, calm, conditions, laid).
  DERIVED. THE GIVEN ROWS OF THIS SEAT. 6 by the template 'for every input the law returns true; each argument reads behind the call as it read before'; 0 by the template 'total and deterministic' (their statements: YthfgaoojgdikpaaTotals.lean).
  GIVEN WITH THE SEED: the statements are not yours to turn. If you find one false, say at which input.
  Laid BY PROGRAM, IN A SANDBOX (cutbox-rows.mjs): the forced cells as the released guide's own fill.sh prints them over the translation 5dc26093bb1f2076… (all of the seat's roots in one cut). By AI agents, Wed Nov 11 2026. No macro, syntax, notation, axiom, sorry.
-/
import Derived.Test.YthfgaoojgdikpaaChecked
import GoSem.Claim
import GoSem.ClaimJoined
import GoSem.ClaimMapViews
import Derived.JoinedTies
import Derived.KernelRfl
namespace Go.Proofs.Ythfgaoojgdikpaa
/- THE CELL 'sum', in the pinned program and in every row, IS THE sha256 OF THE DUMP (.gsa) THAT YthfgaoojgdikpaaProg.lean LOADS. Nothing in Lean hashes anything: it is a label: what it is worth is what the hold of that sum in a sandbox is worth. -/
noncomputable def Try.pinned : Pinned := { name := "ythfgaoojgdikpaa", sum := "5dc26093bb1f20760932f6d58fc70b165121a481c6a777b2d81bc648d01defae", checked := Try.checked }
namespace Rows
def none {H : Type} : Left H := { results := [], args := [] }

/-- 'laws.FnExactTreePolicy': WHATEVER THE INPUT: true; the input reads as it did. -/
def fnExactTreePolicySpec : ChangeSpec := { name := "fnExactTreePolicy", fn := fun _ => fun
  | [d] => { results := [.lit (.bool true)], args := [d] }
  | _ => none }
def fnExactTreePolicyRow : OpenClaim := { program := "ythfgaoojgdikpaa", sum := "5dc26093bb1f20760932f6d58fc70b165121a481c6a777b2d81bc648d01defae", func := "loop.example/g01112/laws.FnExactTreePolicy", spec := "fnExactTreePolicy", unfollowed := true, recurses := true, apart := false }
def FnExactTreePolicySaid : Prop := fnExactTreePolicyRow.holds Try.pinned (OpenSpec.ofChange fnExactTreePolicySpec)

/-- ITS FALSE NEIGHBOUR: 'it returns false'. Refute it at one input. -/
def fnExactTreePolicyWrong : ChangeSpec := { name := "fnExactTreePolicy", fn := fun _ => fun
  | [d] => { results := [.lit (.bool false)], args := [d] }
  | _ => none }
def FnExactTreePolicyWrongFalsely : Prop := fnExactTreePolicyRow.holds Try.pinned (OpenSpec.ofChange fnExactTreePolicyWrong)

/-- 'laws.FnExactLruPolicy': WHATEVER THE INPUT: true; the input reads as it did. -/
def fnExactLruPolicySpec : ChangeSpec := { name := "fnExactLruPolicy", fn := fun _ => fun
  | [d] => { results := [.lit (.bool true)], args := [d] }
  | _ => none }
def fnExactLruPolicyRow : OpenClaim := { program := "ythfgaoojgdikpaa", sum := "5dc26093bb1f20760932f6d58fc70b165121a481c6a777b2d81bc648d01defae", func := "loop.example/g01112/laws.FnExactLruPolicy", spec := "fnExactLruPolicy", unfollowed := true, recurses := true, apart := false }
def FnExactLruPolicySaid : Prop := fnExactLruPolicyRow.holds Try.pinned (OpenSpec.ofChange fnExactLruPolicySpec)

/-- ITS FALSE NEIGHBOUR: 'it returns false'. Refute it at one input. -/
def fnExactLruPolicyWrong : ChangeSpec := { name := "fnExactLruPolicy", fn := fun _ => fun
  | [d] => { results := [.lit (.bool false)], args := [d] }
  | _ => none }
def FnExactLruPolicyWrongFalsely : Prop := fnExactLruPolicyRow.holds Try.pinned (OpenSpec.ofChange fnExactLruPolicyWrong)

/-- 'laws.FnExactFifoPolicy': WHATEVER THE INPUT: true; the input reads as it did. -/
def fnExactFifoPolicySpec : ChangeSpec := { name := "fnExactFifoPolicy", fn := fun _ => fun
  | [d] => { results := [.lit (.bool true)], args := [d] }
  | _ => none }
def fnExactFifoPolicyRow : OpenClaim := { program := "ythfgaoojgdikpaa", sum := "5dc26093bb1f20760932f6d58fc70b165121a481c6a777b2d81bc648d01defae", func := "loop.example/g01112/laws.FnExactFifoPolicy", spec := "fnExactFifoPolicy", unfollowed := true, recurses := true, apart := false }
def FnExactFifoPolicySaid : Prop := fnExactFifoPolicyRow.holds Try.pinned (OpenSpec.ofChange fnExactFifoPolicySpec)

/-- ITS FALSE NEIGHBOUR: 'it returns false'. Refute it at one input. -/
def fnExactFifoPolicyWrong : ChangeSpec := { name := "fnExactFifoPolicy", fn := fun _ => fun
  | [d] => { results := [.lit (.bool false)], args := [d] }
  | _ => none }
def FnExactFifoPolicyWrongFalsely : Prop := fnExactFifoPolicyRow.holds Try.pinned (OpenSpec.ofChange fnExactFifoPolicyWrong)

/-- 'laws.FnExactMruPolicy': WHATEVER THE INPUT: true; the input reads as it did. -/
def fnExactMruPolicySpec : ChangeSpec := { name := "fnExactMruPolicy", fn := fun _ => fun
  | [d] => { results := [.lit (.bool true)], args := [d] }
  | _ => none }
def fnExactMruPolicyRow : OpenClaim := { program := "ythfgaoojgdikpaa", sum := "5dc26093bb1f20760932f6d58fc70b165121a481c6a777b2d81bc648d01defae", func := "loop.example/g01112/laws.FnExactMruPolicy", spec := "fnExactMruPolicy", unfollowed := true, recurses := true, apart := false }
def FnExactMruPolicySaid : Prop := fnExactMruPolicyRow.holds Try.pinned (OpenSpec.ofChange fnExactMruPolicySpec)

/-- ITS FALSE NEIGHBOUR: 'it returns false'. Refute it at one input. -/
def fnExactMruPolicyWrong : ChangeSpec := { name := "fnExactMruPolicy", fn := fun _ => fun
  | [d] => { results := [.lit (.bool false)], args := [d] }
  | _ => none }
def FnExactMruPolicyWrongFalsely : Prop := fnExactMruPolicyRow.holds Try.pinned (OpenSpec.ofChange fnExactMruPolicyWrong)

/-- 'laws.FnExactSeedPolicy': WHATEVER THE INPUT: true; the input reads as it did. -/
def fnExactSeedPolicySpec : ChangeSpec := { name := "fnExactSeedPolicy", fn := fun _ => fun
  | [d1, d2] => { results := [.lit (.bool true)], args := [d1, d2] }
  | _ => none }
def fnExactSeedPolicyRow : OpenClaim := { program := "ythfgaoojgdikpaa", sum := "5dc26093bb1f20760932f6d58fc70b165121a481c6a777b2d81bc648d01defae", func := "loop.example/g01112/laws.FnExactSeedPolicy", spec := "fnExactSeedPolicy", unfollowed := true, recurses := true, apart := false }
def FnExactSeedPolicySaid : Prop := fnExactSeedPolicyRow.holds Try.pinned (OpenSpec.ofChange fnExactSeedPolicySpec)

/-- ITS FALSE NEIGHBOUR: 'it returns false'. Refute it at one input. -/
def fnExactSeedPolicyWrong : ChangeSpec := { name := "fnExactSeedPolicy", fn := fun _ => fun
  | [d1, d2] => { results := [.lit (.bool false)], args := [d1, d2] }
  | _ => none }
def FnExactSeedPolicyWrongFalsely : Prop := fnExactSeedPolicyRow.holds Try.pinned (OpenSpec.ofChange fnExactSeedPolicyWrong)

/-- 'laws.FnExactFromRuns': WHATEVER THE INPUT: true; the input reads as it did. -/
def fnExactFromRunsSpec : ChangeSpec := { name := "fnExactFromRuns", fn := fun _ => fun
  | [d] => { results := [.lit (.bool true)], args := [d] }
  | _ => none }
def fnExactFromRunsRow : OpenClaim := { program := "ythfgaoojgdikpaa", sum := "5dc26093bb1f20760932f6d58fc70b165121a481c6a777b2d81bc648d01defae", func := "loop.example/g01112/laws.FnExactFromRuns", spec := "fnExactFromRuns", apart := false }
def FnExactFromRunsSaid : Prop := fnExactFromRunsRow.holds Try.pinned (OpenSpec.ofChange fnExactFromRunsSpec)

/-- ITS FALSE NEIGHBOUR: 'it returns false'. Refute it at one input. -/
def fnExactFromRunsWrong : ChangeSpec := { name := "fnExactFromRuns", fn := fun _ => fun
  | [d] => { results := [.lit (.bool false)], args := [d] }
  | _ => none }
def FnExactFromRunsWrongFalsely : Prop := fnExactFromRunsRow.holds Try.pinned (OpenSpec.ofChange fnExactFromRunsWrong)

/- THE SECOND FORM. 'bulk': how many values and letters a reading holds, each counted each time it is reached (what is shared counts as often as it is met; a slice's spare places count too). A statement '..UptoSaid' is the law's where the arguments, and the package variables that the reading takes, are together of bulk at most 1048576: NARROWER than '..Said'. Prove '..Said' where nothing that the law and all that it calls make is longer than what came in: it says more and counts as full. Else prove '..UptoSaid'. A law counts once. -/
mutual
def uptoBulk {H : Type} : DataW H → Nat
  | .lit (.string bytes) => bytes.length + 1
  | .lit _ => 1
  | .nil => 1
  | .ptr d => uptoBulk d + 1
  | .slice elems spare => uptoBulkAll elems + uptoBulkAll spare + 1
  | .agg parts => uptoBulkAll parts + 1
  | .iface _ d => uptoBulk d + 1
  | .map entries => uptoBulkEntries entries + 1
  | .held _ => 1
def uptoBulkAll {H : Type} : List (DataW H) → Nat
  | [] => 0
  | d :: r => uptoBulk d + uptoBulkAll r
def uptoBulkEntries {H : Type} : List (Lit × DataW H) → Nat
  | [] => 0
  | x :: r => uptoBulkEntry x + uptoBulkEntries r
def uptoBulkEntry {H : Type} : Lit × DataW H → Nat
  | (.string bytes, d) => bytes.length + uptoBulk d + 1
  | (_, d) => uptoBulk d + 1
 end
def uptoSmall : (H : Type) → List (DataW H) → Bool := fun _ ds => decide (uptoBulkAll ds ≤ 1048576)
def OpenSpec.upto (s : _root_.Go.ChangeSpec) : _root_.Go.OpenSpec := { _root_.Go.OpenSpec.ofChange s with cond := some uptoSmall }

/-- 'laws.FnExactTreePolicy', WHERE WHAT IT READS IS OF BULK AT MOST 1048576: true; the input reads as it did. -/
def fnExactTreePolicyUptoRow : OpenClaim := { program := "ythfgaoojgdikpaa", sum := "5dc26093bb1f20760932f6d58fc70b165121a481c6a777b2d81bc648d01defae", func := "loop.example/g01112/laws.FnExactTreePolicy", spec := "fnExactTreePolicy", unfollowed := true, recurses := true, apart := false, narrowed := true }
def FnExactTreePolicyUptoSaid : Prop := fnExactTreePolicyUptoRow.holds Try.pinned (OpenSpec.upto fnExactTreePolicySpec)

/-- 'laws.FnExactLruPolicy', WHERE WHAT IT READS IS OF BULK AT MOST 1048576: true; the input reads as it did. -/
def fnExactLruPolicyUptoRow : OpenClaim := { program := "ythfgaoojgdikpaa", sum := "5dc26093bb1f20760932f6d58fc70b165121a481c6a777b2d81bc648d01defae", func := "loop.example/g01112/laws.FnExactLruPolicy", spec := "fnExactLruPolicy", unfollowed := true, recurses := true, apart := false, narrowed := true }
def FnExactLruPolicyUptoSaid : Prop := fnExactLruPolicyUptoRow.holds Try.pinned (OpenSpec.upto fnExactLruPolicySpec)

/-- 'laws.FnExactFifoPolicy', WHERE WHAT IT READS IS OF BULK AT MOST 1048576: true; the input reads as it did. -/
def fnExactFifoPolicyUptoRow : OpenClaim := { program := "ythfgaoojgdikpaa", sum := "5dc26093bb1f20760932f6d58fc70b165121a481c6a777b2d81bc648d01defae", func := "loop.example/g01112/laws.FnExactFifoPolicy", spec := "fnExactFifoPolicy", unfollowed := true, recurses := true, apart := false, narrowed := true }
def FnExactFifoPolicyUptoSaid : Prop := fnExactFifoPolicyUptoRow.holds Try.pinned (OpenSpec.upto fnExactFifoPolicySpec)

/-- 'laws.FnExactMruPolicy', WHERE WHAT IT READS IS OF BULK AT MOST 1048576: true; the input reads as it did. -/
def fnExactMruPolicyUptoRow : OpenClaim := { program := "ythfgaoojgdikpaa", sum := "5dc26093bb1f20760932f6d58fc70b165121a481c6a777b2d81bc648d01defae", func := "loop.example/g01112/laws.FnExactMruPolicy", spec := "fnExactMruPolicy", unfollowed := true, recurses := true, apart := false, narrowed := true }
def FnExactMruPolicyUptoSaid : Prop := fnExactMruPolicyUptoRow.holds Try.pinned (OpenSpec.upto fnExactMruPolicySpec)

/-- 'laws.FnExactSeedPolicy', WHERE WHAT IT READS IS OF BULK AT MOST 1048576: true; the input reads as it did. -/
def fnExactSeedPolicyUptoRow : OpenClaim := { program := "ythfgaoojgdikpaa", sum := "5dc26093bb1f20760932f6d58fc70b165121a481c6a777b2d81bc648d01defae", func := "loop.example/g01112/laws.FnExactSeedPolicy", spec := "fnExactSeedPolicy", unfollowed := true, recurses := true, apart := false, narrowed := true }
def FnExactSeedPolicyUptoSaid : Prop := fnExactSeedPolicyUptoRow.holds Try.pinned (OpenSpec.upto fnExactSeedPolicySpec)

/-- 'laws.FnExactFromRuns', WHERE WHAT IT READS IS OF BULK AT MOST 1048576: true; the input reads as it did. -/
def fnExactFromRunsUptoRow : OpenClaim := { program := "ythfgaoojgdikpaa", sum := "5dc26093bb1f20760932f6d58fc70b165121a481c6a777b2d81bc648d01defae", func := "loop.example/g01112/laws.FnExactFromRuns", spec := "fnExactFromRuns", apart := false, narrowed := true }
def FnExactFromRunsUptoSaid : Prop := fnExactFromRunsUptoRow.holds Try.pinned (OpenSpec.upto fnExactFromRunsSpec)

end Rows
end Go.Proofs.Ythfgaoojgdikpaa
