/-
  No cell of these rows narrows 'for every input' (looked for: loops, veiled, ifaces, maps, wideKeys, modest, calm, conditions, laid).
  DERIVED. THE GIVEN ROWS OF THIS SEAT. 5 by the template 'for every input the law returns true; each argument reads behind the call as it read before'; 0 by the template 'total and deterministic' (their statements: YtmcnmjkickamkaaTotals.lean).
  GIVEN WITH THE SEED: the statements are not yours to turn. If you find one false, say at which input.
  Laid BY PROGRAM, IN A SANDBOX (cutbox-rows.mjs): the forced cells as the released guide's own fill.sh prints them over the translation bf41b946e226ec27… (all of the seat's roots in one cut). By AI agents, Wed Nov 11 2026. No macro, syntax, notation, axiom, sorry.
-/
import Derived.Test.YtmcnmjkickamkaaChecked
import GoSem.Claim
import GoSem.ClaimJoined
import GoSem.ClaimMapViews
import Derived.JoinedTies
import Derived.KernelRfl
namespace Go.Proofs.Ytmcnmjkickamkaa
/- THE CELL 'sum', in the pinned program and in every row, IS THE sha256 OF THE DUMP (.gsa) THAT YtmcnmjkickamkaaProg.lean LOADS. Nothing in Lean hashes anything: it is a label: what it is worth is what the hold of that sum in a sandbox is worth. -/
noncomputable def Try.pinned : Pinned := { name := "ytmcnmjkickamkaa", sum := "bf41b946e226ec27cac3a28575b868d94157264d939b7b52150650aea5784e74", checked := Try.checked }
namespace Rows
def none {H : Type} : Left H := { results := [], args := [] }

/-- 'laws.FnExactValidLoads': WHATEVER THE INPUT: true; the input reads as it did. -/
def fnExactValidLoadsSpec : ChangeSpec := { name := "fnExactValidLoads", fn := fun _ => fun
  | [d] => { results := [.lit (.bool true)], args := [d] }
  | _ => none }
def fnExactValidLoadsRow : OpenClaim := { program := "ytmcnmjkickamkaa", sum := "bf41b946e226ec27cac3a28575b868d94157264d939b7b52150650aea5784e74", func := "loop.example/g01112/laws.FnExactValidLoads", spec := "fnExactValidLoads", apart := false }
def FnExactValidLoadsSaid : Prop := fnExactValidLoadsRow.holds Try.pinned (OpenSpec.ofChange fnExactValidLoadsSpec)

/-- ITS FALSE NEIGHBOUR: 'it returns false'. Refute it at one input. -/
def fnExactValidLoadsWrong : ChangeSpec := { name := "fnExactValidLoads", fn := fun _ => fun
  | [d] => { results := [.lit (.bool false)], args := [d] }
  | _ => none }
def FnExactValidLoadsWrongFalsely : Prop := fnExactValidLoadsRow.holds Try.pinned (OpenSpec.ofChange fnExactValidLoadsWrong)

/-- 'laws.FnExactValidPrefetcher': WHATEVER THE INPUT: true; the input reads as it did. -/
def fnExactValidPrefetcherSpec : ChangeSpec := { name := "fnExactValidPrefetcher", fn := fun _ => fun
  | [d] => { results := [.lit (.bool true)], args := [d] }
  | _ => none }
def fnExactValidPrefetcherRow : OpenClaim := { program := "ytmcnmjkickamkaa", sum := "bf41b946e226ec27cac3a28575b868d94157264d939b7b52150650aea5784e74", func := "loop.example/g01112/laws.FnExactValidPrefetcher", spec := "fnExactValidPrefetcher", apart := false }
def FnExactValidPrefetcherSaid : Prop := fnExactValidPrefetcherRow.holds Try.pinned (OpenSpec.ofChange fnExactValidPrefetcherSpec)

/-- ITS FALSE NEIGHBOUR: 'it returns false'. Refute it at one input. -/
def fnExactValidPrefetcherWrong : ChangeSpec := { name := "fnExactValidPrefetcher", fn := fun _ => fun
  | [d] => { results := [.lit (.bool false)], args := [d] }
  | _ => none }
def FnExactValidPrefetcherWrongFalsely : Prop := fnExactValidPrefetcherRow.holds Try.pinned (OpenSpec.ofChange fnExactValidPrefetcherWrong)

/-- 'laws.FnExactStridesOf': WHATEVER THE INPUT: true; the input reads as it did. -/
def fnExactStridesOfSpec : ChangeSpec := { name := "fnExactStridesOf", fn := fun _ => fun
  | [d] => { results := [.lit (.bool true)], args := [d] }
  | _ => none }
def fnExactStridesOfRow : OpenClaim := { program := "ytmcnmjkickamkaa", sum := "bf41b946e226ec27cac3a28575b868d94157264d939b7b52150650aea5784e74", func := "loop.example/g01112/laws.FnExactStridesOf", spec := "fnExactStridesOf", apart := false }
def FnExactStridesOfSaid : Prop := fnExactStridesOfRow.holds Try.pinned (OpenSpec.ofChange fnExactStridesOfSpec)

/-- ITS FALSE NEIGHBOUR: 'it returns false'. Refute it at one input. -/
def fnExactStridesOfWrong : ChangeSpec := { name := "fnExactStridesOf", fn := fun _ => fun
  | [d] => { results := [.lit (.bool false)], args := [d] }
  | _ => none }
def FnExactStridesOfWrongFalsely : Prop := fnExactStridesOfRow.holds Try.pinned (OpenSpec.ofChange fnExactStridesOfWrong)

/-- 'laws.FnExactPairsOf': WHATEVER THE INPUT: true; the input reads as it did. -/
def fnExactPairsOfSpec : ChangeSpec := { name := "fnExactPairsOf", fn := fun _ => fun
  | [d1, d2] => { results := [.lit (.bool true)], args := [d1, d2] }
  | _ => none }
def fnExactPairsOfRow : OpenClaim := { program := "ytmcnmjkickamkaa", sum := "bf41b946e226ec27cac3a28575b868d94157264d939b7b52150650aea5784e74", func := "loop.example/g01112/laws.FnExactPairsOf", spec := "fnExactPairsOf", apart := false }
def FnExactPairsOfSaid : Prop := fnExactPairsOfRow.holds Try.pinned (OpenSpec.ofChange fnExactPairsOfSpec)

/-- ITS FALSE NEIGHBOUR: 'it returns false'. Refute it at one input. -/
def fnExactPairsOfWrong : ChangeSpec := { name := "fnExactPairsOf", fn := fun _ => fun
  | [d1, d2] => { results := [.lit (.bool false)], args := [d1, d2] }
  | _ => none }
def FnExactPairsOfWrongFalsely : Prop := fnExactPairsOfRow.holds Try.pinned (OpenSpec.ofChange fnExactPairsOfWrong)

/-- 'laws.FnExactGuessesOf': WHATEVER THE INPUT: true; the input reads as it did. -/
def fnExactGuessesOfSpec : ChangeSpec := { name := "fnExactGuessesOf", fn := fun _ => fun
  | [d1, d2] => { results := [.lit (.bool true)], args := [d1, d2] }
  | _ => none }
def fnExactGuessesOfRow : OpenClaim := { program := "ytmcnmjkickamkaa", sum := "bf41b946e226ec27cac3a28575b868d94157264d939b7b52150650aea5784e74", func := "loop.example/g01112/laws.FnExactGuessesOf", spec := "fnExactGuessesOf", unfollowed := true, recurses := true, apart := false }
def FnExactGuessesOfSaid : Prop := fnExactGuessesOfRow.holds Try.pinned (OpenSpec.ofChange fnExactGuessesOfSpec)

/-- ITS FALSE NEIGHBOUR: 'it returns false'. Refute it at one input. -/
def fnExactGuessesOfWrong : ChangeSpec := { name := "fnExactGuessesOf", fn := fun _ => fun
  | [d1, d2] => { results := [.lit (.bool false)], args := [d1, d2] }
  | _ => none }
def FnExactGuessesOfWrongFalsely : Prop := fnExactGuessesOfRow.holds Try.pinned (OpenSpec.ofChange fnExactGuessesOfWrong)

/- THE SECOND FORM. 'bulk': how many values and letters a reading holds, each counted each time it is reached (what is shared counts as often as it is met; a slice's spare places count too). A statement '..UptoSaid' is the law's where the arguments, and the package variables that the reading takes, are together of bulk at most 1048576: NARROWER than '..Said'. Prove '..Said' where nothing that the law and all that it calls make is longer than what came in: it says more and counts as full. Else prove '..UptoSaid'. A law counts once. -/
mutual
def uptoBulk {H : Type} : DataW H → Nat
  | .lit (.string bytes) => bytes.length + 1
  | .lit _ => 1
  | .nil => 1
  | .ptr d => uptoBulk d + 1
  | .slice elems spare => uptoBulkAll elems + uptoBulkAll spare + 1
  | .agg parts => uptoBulkAll parts + 1
  | .iface _ d => uptoBulk d + 1
  | .map entries => uptoBulkEntries entries + 1
  | .held _ => 1
def uptoBulkAll {H : Type} : List (DataW H) → Nat
  | [] => 0
  | d :: r => uptoBulk d + uptoBulkAll r
def uptoBulkEntries {H : Type} : List (Lit × DataW H) → Nat
  | [] => 0
  | x :: r => uptoBulkEntry x + uptoBulkEntries r
def uptoBulkEntry {H : Type} : Lit × DataW H → Nat
  | (.string bytes, d) => bytes.length + uptoBulk d + 1
  | (_, d) => uptoBulk d + 1
 end
def uptoSmall : (H : Type) → List (DataW H) → Bool := fun _ ds => decide (uptoBulkAll ds ≤ 1048576)
def OpenSpec.upto (s : _root_.Go.ChangeSpec) : _root_.Go.OpenSpec := { _root_.Go.OpenSpec.ofChange s with cond := some uptoSmall }

/-- 'laws.FnExactValidLoads', WHERE WHAT IT READS IS OF BULK AT MOST 1048576: true; the input reads as it did. -/
def fnExactValidLoadsUptoRow : OpenClaim := { program := "ytmcnmjkickamkaa", sum := "bf41b946e226ec27cac3a28575b868d94157264d939b7b52150650aea5784e74", func := "loop.example/g01112/laws.FnExactValidLoads", spec := "fnExactValidLoads", apart := false, narrowed := true }
def FnExactValidLoadsUptoSaid : Prop := fnExactValidLoadsUptoRow.holds Try.pinned (OpenSpec.upto fnExactValidLoadsSpec)

/-- 'laws.FnExactValidPrefetcher', WHERE WHAT IT READS IS OF BULK AT MOST 1048576: true; the input reads as it did. -/
def fnExactValidPrefetcherUptoRow : OpenClaim := { program := "ytmcnmjkickamkaa", sum := "bf41b946e226ec27cac3a28575b868d94157264d939b7b52150650aea5784e74", func := "loop.example/g01112/laws.FnExactValidPrefetcher", spec := "fnExactValidPrefetcher", apart := false, narrowed := true }
def FnExactValidPrefetcherUptoSaid : Prop := fnExactValidPrefetcherUptoRow.holds Try.pinned (OpenSpec.upto fnExactValidPrefetcherSpec)

/-- 'laws.FnExactStridesOf', WHERE WHAT IT READS IS OF BULK AT MOST 1048576: true; the input reads as it did. -/
def fnExactStridesOfUptoRow : OpenClaim := { program := "ytmcnmjkickamkaa", sum := "bf41b946e226ec27cac3a28575b868d94157264d939b7b52150650aea5784e74", func := "loop.example/g01112/laws.FnExactStridesOf", spec := "fnExactStridesOf", apart := false, narrowed := true }
def FnExactStridesOfUptoSaid : Prop := fnExactStridesOfUptoRow.holds Try.pinned (OpenSpec.upto fnExactStridesOfSpec)

/-- 'laws.FnExactPairsOf', WHERE WHAT IT READS IS OF BULK AT MOST 1048576: true; the input reads as it did. -/
def fnExactPairsOfUptoRow : OpenClaim := { program := "ytmcnmjkickamkaa", sum := "bf41b946e226ec27cac3a28575b868d94157264d939b7b52150650aea5784e74", func := "loop.example/g01112/laws.FnExactPairsOf", spec := "fnExactPairsOf", apart := false, narrowed := true }
def FnExactPairsOfUptoSaid : Prop := fnExactPairsOfUptoRow.holds Try.pinned (OpenSpec.upto fnExactPairsOfSpec)

/-- 'laws.FnExactGuessesOf', WHERE WHAT IT READS IS OF BULK AT MOST 1048576: true; the input reads as it did. -/
def fnExactGuessesOfUptoRow : OpenClaim := { program := "ytmcnmjkickamkaa", sum := "bf41b946e226ec27cac3a28575b868d94157264d939b7b52150650aea5784e74", func := "loop.example/g01112/laws.FnExactGuessesOf", spec := "fnExactGuessesOf", unfollowed := true, recurses := true, apart := false, narrowed := true }
def FnExactGuessesOfUptoSaid : Prop := fnExactGuessesOfUptoRow.holds Try.pinned (OpenSpec.upto fnExactGuessesOfSpec)

end Rows
end Go.Proofs.Ytmcnmjkickamkaa
