/-
  No cell of these rows narrows 'for every input' (looked for: loops, veiled, ifaces, maps, wideKeys, modest, calm, conditions, laid).
  DERIVED. THE GIVEN ROWS OF THIS SEAT. 4 by the template 'for every input the law returns true; each argument reads behind the call as it read before'; 0 by the template 'total and deterministic' (their statements: YtbajnkojjeakgaaTotals.lean).
  GIVEN WITH THE SEED: the statements are not yours to turn. If you find one false, say at which input.
  Laid BY PROGRAM, IN A SANDBOX (cutbox-rows.mjs): the forced cells as the released guide's own fill.sh prints them over the translation b8f3f4c5cc3c9d3f… (all of the seat's roots in one cut). By AI agents, Wed Nov 11 2026. No macro, syntax, notation, axiom, sorry.
-/
import Derived.Test.YtbajnkojjeakgaaChecked
import GoSem.Claim
import GoSem.ClaimJoined
import GoSem.ClaimMapViews
import Derived.JoinedTies
import Derived.KernelRfl
namespace Go.Proofs.Ytbajnkojjeakgaa
/- THE CELL 'sum', in the pinned program and in every row, IS THE sha256 OF THE DUMP (.gsa) THAT YtbajnkojjeakgaaProg.lean LOADS. Nothing in Lean hashes anything: it is a label: what it is worth is what the hold of that sum in a sandbox is worth. -/
noncomputable def Try.pinned : Pinned := { name := "ytbajnkojjeakgaa", sum := "b8f3f4c5cc3c9d3f7aee8153a165a83e4b01339b2f27594905108817397733bb", checked := Try.checked }
namespace Rows
def none {H : Type} : Left H := { results := [], args := [] }

/-- 'laws.FnExactRankContents': WHATEVER THE INPUT: true; the input reads as it did. -/
def fnExactRankContentsSpec : ChangeSpec := { name := "fnExactRankContents", fn := fun _ => fun
  | [d1, d2, d3] => { results := [.lit (.bool true)], args := [d1, d2, d3] }
  | _ => none }
def fnExactRankContentsRow : OpenClaim := { program := "ytbajnkojjeakgaa", sum := "b8f3f4c5cc3c9d3f7aee8153a165a83e4b01339b2f27594905108817397733bb", func := "loop.example/g01112/laws.FnExactRankContents", spec := "fnExactRankContents", inPlace := ["slices.overlaps[int64]"], unfollowed := true, recurses := true, plainKeys := false, apart := false }
def FnExactRankContentsSaid : Prop := fnExactRankContentsRow.holds Try.pinned (OpenSpec.ofChange fnExactRankContentsSpec)

/-- ITS FALSE NEIGHBOUR: 'it returns false'. Refute it at one input. -/
def fnExactRankContentsWrong : ChangeSpec := { name := "fnExactRankContents", fn := fun _ => fun
  | [d1, d2, d3] => { results := [.lit (.bool false)], args := [d1, d2, d3] }
  | _ => none }
def FnExactRankContentsWrongFalsely : Prop := fnExactRankContentsRow.holds Try.pinned (OpenSpec.ofChange fnExactRankContentsWrong)

/-- 'laws.FnExactBestShares': WHATEVER THE INPUT: true; the input reads as it did. -/
def fnExactBestSharesSpec : ChangeSpec := { name := "fnExactBestShares", fn := fun _ => fun
  | [d1, d2] => { results := [.lit (.bool true)], args := [d1, d2] }
  | _ => none }
def fnExactBestSharesRow : OpenClaim := { program := "ytbajnkojjeakgaa", sum := "b8f3f4c5cc3c9d3f7aee8153a165a83e4b01339b2f27594905108817397733bb", func := "loop.example/g01112/laws.FnExactBestShares", spec := "fnExactBestShares", unfollowed := true, recurses := true, plainKeys := false, apart := false }
def FnExactBestSharesSaid : Prop := fnExactBestSharesRow.holds Try.pinned (OpenSpec.ofChange fnExactBestSharesSpec)

/-- ITS FALSE NEIGHBOUR: 'it returns false'. Refute it at one input. -/
def fnExactBestSharesWrong : ChangeSpec := { name := "fnExactBestShares", fn := fun _ => fun
  | [d1, d2] => { results := [.lit (.bool false)], args := [d1, d2] }
  | _ => none }
def FnExactBestSharesWrongFalsely : Prop := fnExactBestSharesRow.holds Try.pinned (OpenSpec.ofChange fnExactBestSharesWrong)

/-- 'laws.FnStacked': WHATEVER THE INPUT: true; the input reads as it did. -/
def fnStackedSpec : ChangeSpec := { name := "fnStacked", fn := fun _ => fun
  | [d1, d2] => { results := [.lit (.bool true)], args := [d1, d2] }
  | _ => none }
def fnStackedRow : OpenClaim := { program := "ytbajnkojjeakgaa", sum := "b8f3f4c5cc3c9d3f7aee8153a165a83e4b01339b2f27594905108817397733bb", func := "loop.example/g01112/laws.FnStacked", spec := "fnStacked", inPlace := ["slices.overlaps[int64]"], unfollowed := true, recurses := true, plainKeys := false, apart := false }
def FnStackedSaid : Prop := fnStackedRow.holds Try.pinned (OpenSpec.ofChange fnStackedSpec)

/-- ITS FALSE NEIGHBOUR: 'it returns false'. Refute it at one input. -/
def fnStackedWrong : ChangeSpec := { name := "fnStacked", fn := fun _ => fun
  | [d1, d2] => { results := [.lit (.bool false)], args := [d1, d2] }
  | _ => none }
def FnStackedWrongFalsely : Prop := fnStackedRow.holds Try.pinned (OpenSpec.ofChange fnStackedWrong)

/-- 'laws.FnBestShares': WHATEVER THE INPUT: true; the input reads as it did. -/
def fnBestSharesSpec : ChangeSpec := { name := "fnBestShares", fn := fun _ => fun
  | [d1, d2] => { results := [.lit (.bool true)], args := [d1, d2] }
  | _ => none }
def fnBestSharesRow : OpenClaim := { program := "ytbajnkojjeakgaa", sum := "b8f3f4c5cc3c9d3f7aee8153a165a83e4b01339b2f27594905108817397733bb", func := "loop.example/g01112/laws.FnBestShares", spec := "fnBestShares", unfollowed := true, recurses := true, plainKeys := false, apart := false }
def FnBestSharesSaid : Prop := fnBestSharesRow.holds Try.pinned (OpenSpec.ofChange fnBestSharesSpec)

/-- ITS FALSE NEIGHBOUR: 'it returns false'. Refute it at one input. -/
def fnBestSharesWrong : ChangeSpec := { name := "fnBestShares", fn := fun _ => fun
  | [d1, d2] => { results := [.lit (.bool false)], args := [d1, d2] }
  | _ => none }
def FnBestSharesWrongFalsely : Prop := fnBestSharesRow.holds Try.pinned (OpenSpec.ofChange fnBestSharesWrong)

/- THE SECOND FORM. 'bulk': how many values and letters a reading holds, each counted each time it is reached (what is shared counts as often as it is met; a slice's spare places count too). A statement '..UptoSaid' is the law's where the arguments, and the package variables that the reading takes, are together of bulk at most 1048576: NARROWER than '..Said'. Prove '..Said' where nothing that the law and all that it calls make is longer than what came in: it says more and counts as full. Else prove '..UptoSaid'. A law counts once. -/
mutual
def uptoBulk {H : Type} : DataW H → Nat
  | .lit (.string bytes) => bytes.length + 1
  | .lit _ => 1
  | .nil => 1
  | .ptr d => uptoBulk d + 1
  | .slice elems spare => uptoBulkAll elems + uptoBulkAll spare + 1
  | .agg parts => uptoBulkAll parts + 1
  | .iface _ d => uptoBulk d + 1
  | .map entries => uptoBulkEntries entries + 1
  | .held _ => 1
def uptoBulkAll {H : Type} : List (DataW H) → Nat
  | [] => 0
  | d :: r => uptoBulk d + uptoBulkAll r
def uptoBulkEntries {H : Type} : List (Lit × DataW H) → Nat
  | [] => 0
  | x :: r => uptoBulkEntry x + uptoBulkEntries r
def uptoBulkEntry {H : Type} : Lit × DataW H → Nat
  | (.string bytes, d) => bytes.length + uptoBulk d + 1
  | (_, d) => uptoBulk d + 1
 end
def uptoSmall : (H : Type) → List (DataW H) → Bool := fun _ ds => decide (uptoBulkAll ds ≤ 1048576)
def OpenSpec.upto (s : _root_.Go.ChangeSpec) : _root_.Go.OpenSpec := { _root_.Go.OpenSpec.ofChange s with cond := some uptoSmall }

/-- 'laws.FnExactRankContents', WHERE WHAT IT READS IS OF BULK AT MOST 1048576: true; the input reads as it did. -/
def fnExactRankContentsUptoRow : OpenClaim := { program := "ytbajnkojjeakgaa", sum := "b8f3f4c5cc3c9d3f7aee8153a165a83e4b01339b2f27594905108817397733bb", func := "loop.example/g01112/laws.FnExactRankContents", spec := "fnExactRankContents", inPlace := ["slices.overlaps[int64]"], unfollowed := true, recurses := true, plainKeys := false, apart := false, narrowed := true }
def FnExactRankContentsUptoSaid : Prop := fnExactRankContentsUptoRow.holds Try.pinned (OpenSpec.upto fnExactRankContentsSpec)

/-- 'laws.FnExactBestShares', WHERE WHAT IT READS IS OF BULK AT MOST 1048576: true; the input reads as it did. -/
def fnExactBestSharesUptoRow : OpenClaim := { program := "ytbajnkojjeakgaa", sum := "b8f3f4c5cc3c9d3f7aee8153a165a83e4b01339b2f27594905108817397733bb", func := "loop.example/g01112/laws.FnExactBestShares", spec := "fnExactBestShares", unfollowed := true, recurses := true, plainKeys := false, apart := false, narrowed := true }
def FnExactBestSharesUptoSaid : Prop := fnExactBestSharesUptoRow.holds Try.pinned (OpenSpec.upto fnExactBestSharesSpec)

/-- 'laws.FnStacked', WHERE WHAT IT READS IS OF BULK AT MOST 1048576: true; the input reads as it did. -/
def fnStackedUptoRow : OpenClaim := { program := "ytbajnkojjeakgaa", sum := "b8f3f4c5cc3c9d3f7aee8153a165a83e4b01339b2f27594905108817397733bb", func := "loop.example/g01112/laws.FnStacked", spec := "fnStacked", inPlace := ["slices.overlaps[int64]"], unfollowed := true, recurses := true, plainKeys := false, apart := false, narrowed := true }
def FnStackedUptoSaid : Prop := fnStackedUptoRow.holds Try.pinned (OpenSpec.upto fnStackedSpec)

/-- 'laws.FnBestShares', WHERE WHAT IT READS IS OF BULK AT MOST 1048576: true; the input reads as it did. -/
def fnBestSharesUptoRow : OpenClaim := { program := "ytbajnkojjeakgaa", sum := "b8f3f4c5cc3c9d3f7aee8153a165a83e4b01339b2f27594905108817397733bb", func := "loop.example/g01112/laws.FnBestShares", spec := "fnBestShares", unfollowed := true, recurses := true, plainKeys := false, apart := false, narrowed := true }
def FnBestSharesUptoSaid : Prop := fnBestSharesUptoRow.holds Try.pinned (OpenSpec.upto fnBestSharesSpec)

end Rows
end Go.Proofs.Ytbajnkojjeakgaa
