/-
  No cell of these rows narrows 'for every input' (looked for: loops, veiled, ifaces, maps, wideKeys, modest, calm, conditions, laid).
  DERIVED. THE GIVEN ROWS OF THIS SEAT. 3 by the template 'for every input the law returns true; each argument reads behind the call as it read before'; 0 by the template 'total and deterministic' (their statements: YtaeaffddmohjgaaTotals.lean).
  GIVEN WITH THE SEED: the statements are not yours to turn. If you find one false, say at which input.
  Laid BY PROGRAM, IN A SANDBOX (cutbox-rows.mjs): the forced cells as the released guide's own fill.sh prints them over the translation 362cc04ac57635c0… (all of the seat's roots in one cut). By AI agents, Wed Nov 11 2026. No macro, syntax, notation, axiom, sorry.
-/
import Derived.Test.YtaeaffddmohjgaaChecked
import GoSem.Claim
import GoSem.ClaimJoined
import GoSem.ClaimMapViews
import Derived.JoinedTies
import Derived.KernelRfl
namespace Go.Proofs.Ytaeaffddmohjgaa
/- THE CELL 'sum', in the pinned program and in every row, IS THE sha256 OF THE DUMP (.gsa) THAT YtaeaffddmohjgaaProg.lean LOADS. Nothing in Lean hashes anything: it is a label: what it is worth is what the hold of that sum in a sandbox is worth. -/
noncomputable def Try.pinned : Pinned := { name := "ytaeaffddmohjgaa", sum := "362cc04ac57635c0dfc7b2527ed206988bfbcf6d833791ac047f0bce3e8b1e1a", checked := Try.checked }
namespace Rows
def none {H : Type} : Left H := { results := [], args := [] }

/-- 'laws.FnExactSizeFor': WHATEVER THE INPUT: true; the input reads as it did. -/
def fnExactSizeForSpec : ChangeSpec := { name := "fnExactSizeFor", fn := fun _ => fun
  | [d1, d2] => { results := [.lit (.bool true)], args := [d1, d2] }
  | _ => none }
def fnExactSizeForRow : OpenClaim := { program := "ytaeaffddmohjgaa", sum := "362cc04ac57635c0dfc7b2527ed206988bfbcf6d833791ac047f0bce3e8b1e1a", func := "loop.example/g01112/laws.FnExactSizeFor", spec := "fnExactSizeFor", unfollowed := true, recurses := true, plainKeys := false, apart := false }
def FnExactSizeForSaid : Prop := fnExactSizeForRow.holds Try.pinned (OpenSpec.ofChange fnExactSizeForSpec)

/-- ITS FALSE NEIGHBOUR: 'it returns false'. Refute it at one input. -/
def fnExactSizeForWrong : ChangeSpec := { name := "fnExactSizeFor", fn := fun _ => fun
  | [d1, d2] => { results := [.lit (.bool false)], args := [d1, d2] }
  | _ => none }
def FnExactSizeForWrongFalsely : Prop := fnExactSizeForRow.holds Try.pinned (OpenSpec.ofChange fnExactSizeForWrong)

/-- 'laws.FnExactRankContents': WHATEVER THE INPUT: true; the input reads as it did. -/
def fnExactRankContentsSpec : ChangeSpec := { name := "fnExactRankContents", fn := fun _ => fun
  | [d1, d2, d3] => { results := [.lit (.bool true)], args := [d1, d2, d3] }
  | _ => none }
def fnExactRankContentsRow : OpenClaim := { program := "ytaeaffddmohjgaa", sum := "362cc04ac57635c0dfc7b2527ed206988bfbcf6d833791ac047f0bce3e8b1e1a", func := "loop.example/g01112/laws.FnExactRankContents", spec := "fnExactRankContents", inPlace := ["slices.overlaps[int64]"], unfollowed := true, recurses := true, plainKeys := false, apart := false }
def FnExactRankContentsSaid : Prop := fnExactRankContentsRow.holds Try.pinned (OpenSpec.ofChange fnExactRankContentsSpec)

/-- ITS FALSE NEIGHBOUR: 'it returns false'. Refute it at one input. -/
def fnExactRankContentsWrong : ChangeSpec := { name := "fnExactRankContents", fn := fun _ => fun
  | [d1, d2, d3] => { results := [.lit (.bool false)], args := [d1, d2, d3] }
  | _ => none }
def FnExactRankContentsWrongFalsely : Prop := fnExactRankContentsRow.holds Try.pinned (OpenSpec.ofChange fnExactRankContentsWrong)

/-- 'laws.FnExactBestShares': WHATEVER THE INPUT: true; the input reads as it did. -/
def fnExactBestSharesSpec : ChangeSpec := { name := "fnExactBestShares", fn := fun _ => fun
  | [d1, d2] => { results := [.lit (.bool true)], args := [d1, d2] }
  | _ => none }
def fnExactBestSharesRow : OpenClaim := { program := "ytaeaffddmohjgaa", sum := "362cc04ac57635c0dfc7b2527ed206988bfbcf6d833791ac047f0bce3e8b1e1a", func := "loop.example/g01112/laws.FnExactBestShares", spec := "fnExactBestShares", unfollowed := true, recurses := true, plainKeys := false, apart := false }
def FnExactBestSharesSaid : Prop := fnExactBestSharesRow.holds Try.pinned (OpenSpec.ofChange fnExactBestSharesSpec)

/-- ITS FALSE NEIGHBOUR: 'it returns false'. Refute it at one input. -/
def fnExactBestSharesWrong : ChangeSpec := { name := "fnExactBestShares", fn := fun _ => fun
  | [d1, d2] => { results := [.lit (.bool false)], args := [d1, d2] }
  | _ => none }
def FnExactBestSharesWrongFalsely : Prop := fnExactBestSharesRow.holds Try.pinned (OpenSpec.ofChange fnExactBestSharesWrong)

/- THE SECOND FORM. 'bulk': how many values and letters a reading holds, each counted each time it is reached (what is shared counts as often as it is met; a slice's spare places count too). A statement '..UptoSaid' is the law's where the arguments, and the package variables that the reading takes, are together of bulk at most 1048576: NARROWER than '..Said'. Prove '..Said' where nothing that the law and all that it calls make is longer than what came in: it says more and counts as full. Else prove '..UptoSaid'. A law counts once. -/
mutual
def uptoBulk {H : Type} : DataW H → Nat
  | .lit (.string bytes) => bytes.length + 1
  | .lit _ => 1
  | .nil => 1
  | .ptr d => uptoBulk d + 1
  | .slice elems spare => uptoBulkAll elems + uptoBulkAll spare + 1
  | .agg parts => uptoBulkAll parts + 1
  | .iface _ d => uptoBulk d + 1
  | .map entries => uptoBulkEntries entries + 1
  | .held _ => 1
def uptoBulkAll {H : Type} : List (DataW H) → Nat
  | [] => 0
  | d :: r => uptoBulk d + uptoBulkAll r
def uptoBulkEntries {H : Type} : List (Lit × DataW H) → Nat
  | [] => 0
  | x :: r => uptoBulkEntry x + uptoBulkEntries r
def uptoBulkEntry {H : Type} : Lit × DataW H → Nat
  | (.string bytes, d) => bytes.length + uptoBulk d + 1
  | (_, d) => uptoBulk d + 1
 end
def uptoSmall : (H : Type) → List (DataW H) → Bool := fun _ ds => decide (uptoBulkAll ds ≤ 1048576)
def OpenSpec.upto (s : _root_.Go.ChangeSpec) : _root_.Go.OpenSpec := { _root_.Go.OpenSpec.ofChange s with cond := some uptoSmall }

/-- 'laws.FnExactSizeFor', WHERE WHAT IT READS IS OF BULK AT MOST 1048576: true; the input reads as it did. -/
def fnExactSizeForUptoRow : OpenClaim := { program := "ytaeaffddmohjgaa", sum := "362cc04ac57635c0dfc7b2527ed206988bfbcf6d833791ac047f0bce3e8b1e1a", func := "loop.example/g01112/laws.FnExactSizeFor", spec := "fnExactSizeFor", unfollowed := true, recurses := true, plainKeys := false, apart := false, narrowed := true }
def FnExactSizeForUptoSaid : Prop := fnExactSizeForUptoRow.holds Try.pinned (OpenSpec.upto fnExactSizeForSpec)

/-- 'laws.FnExactRankContents', WHERE WHAT IT READS IS OF BULK AT MOST 1048576: true; the input reads as it did. -/
def fnExactRankContentsUptoRow : OpenClaim := { program := "ytaeaffddmohjgaa", sum := "362cc04ac57635c0dfc7b2527ed206988bfbcf6d833791ac047f0bce3e8b1e1a", func := "loop.example/g01112/laws.FnExactRankContents", spec := "fnExactRankContents", inPlace := ["slices.overlaps[int64]"], unfollowed := true, recurses := true, plainKeys := false, apart := false, narrowed := true }
def FnExactRankContentsUptoSaid : Prop := fnExactRankContentsUptoRow.holds Try.pinned (OpenSpec.upto fnExactRankContentsSpec)

/-- 'laws.FnExactBestShares', WHERE WHAT IT READS IS OF BULK AT MOST 1048576: true; the input reads as it did. -/
def fnExactBestSharesUptoRow : OpenClaim := { program := "ytaeaffddmohjgaa", sum := "362cc04ac57635c0dfc7b2527ed206988bfbcf6d833791ac047f0bce3e8b1e1a", func := "loop.example/g01112/laws.FnExactBestShares", spec := "fnExactBestShares", unfollowed := true, recurses := true, plainKeys := false, apart := false, narrowed := true }
def FnExactBestSharesUptoSaid : Prop := fnExactBestSharesUptoRow.holds Try.pinned (OpenSpec.upto fnExactBestSharesSpec)

end Rows
end Go.Proofs.Ytaeaffddmohjgaa
