/-
  No cell of these rows narrows 'for every input' (looked for: loops, veiled, ifaces, maps, wideKeys, modest, calm, conditions, laid).
  DERIVED. THE GIVEN ROWS OF THIS SEAT. 4 by the template 'for every input the law returns true; each argument reads behind the call as it read before'; 0 by the template 'total and deterministic' (their statements: YtngbddmbmkphcaaTotals.lean).
  GIVEN WITH THE SEED: the statements are not yours to turn. If you find one false, say at which input.
  Laid BY PROGRAM, IN A SANDBOX (cutbox-rows.mjs): the forced cells as the released guide's own fill.sh prints them over the translation 0e2bcd35818c1cd7… (all of the seat's roots in one cut). By AI agents, Wed Nov 11 2026. No macro, syntax, notation, axiom, sorry.
-/
import Derived.Test.YtngbddmbmkphcaaChecked
import GoSem.Claim
import GoSem.ClaimJoined
import GoSem.ClaimMapViews
import Derived.JoinedTies
import Derived.KernelRfl
namespace Go.Proofs.Ytngbddmbmkphcaa
/- THE CELL 'sum', in the pinned program and in every row, IS THE sha256 OF THE DUMP (.gsa) THAT YtngbddmbmkphcaaProg.lean LOADS. Nothing in Lean hashes anything: it is a label: what it is worth is what the hold of that sum in a sandbox is worth. -/
noncomputable def Try.pinned : Pinned := { name := "ytngbddmbmkphcaa", sum := "0e2bcd35818c1cd728b3d18ffd1f510cae0d07561b9a7c222160d7b74b8c39bf", checked := Try.checked }
namespace Rows
def none {H : Type} : Left H := { results := [], args := [] }

/-- 'laws.FnExactCacheReads': WHATEVER THE INPUT: true; the input reads as it did. -/
def fnExactCacheReadsSpec : ChangeSpec := { name := "fnExactCacheReads", fn := fun _ => fun
  | [d1, d2] => { results := [.lit (.bool true)], args := [d1, d2] }
  | _ => none }
def fnExactCacheReadsRow : OpenClaim := { program := "ytngbddmbmkphcaa", sum := "0e2bcd35818c1cd728b3d18ffd1f510cae0d07561b9a7c222160d7b74b8c39bf", func := "loop.example/g01112/laws.FnExactCacheReads", spec := "fnExactCacheReads", unfollowed := true, recurses := true, plainKeys := false, apart := false }
def FnExactCacheReadsSaid : Prop := fnExactCacheReadsRow.holds Try.pinned (OpenSpec.ofChange fnExactCacheReadsSpec)

/-- ITS FALSE NEIGHBOUR: 'it returns false'. Refute it at one input. -/
def fnExactCacheReadsWrong : ChangeSpec := { name := "fnExactCacheReads", fn := fun _ => fun
  | [d1, d2] => { results := [.lit (.bool false)], args := [d1, d2] }
  | _ => none }
def FnExactCacheReadsWrongFalsely : Prop := fnExactCacheReadsRow.holds Try.pinned (OpenSpec.ofChange fnExactCacheReadsWrong)

/-- 'laws.FnExactCacheMemory': WHATEVER THE INPUT: true; the input reads as it did. -/
def fnExactCacheMemorySpec : ChangeSpec := { name := "fnExactCacheMemory", fn := fun _ => fun
  | [d1, d2] => { results := [.lit (.bool true)], args := [d1, d2] }
  | _ => none }
def fnExactCacheMemoryRow : OpenClaim := { program := "ytngbddmbmkphcaa", sum := "0e2bcd35818c1cd728b3d18ffd1f510cae0d07561b9a7c222160d7b74b8c39bf", func := "loop.example/g01112/laws.FnExactCacheMemory", spec := "fnExactCacheMemory", unfollowed := true, recurses := true, plainKeys := false, apart := false }
def FnExactCacheMemorySaid : Prop := fnExactCacheMemoryRow.holds Try.pinned (OpenSpec.ofChange fnExactCacheMemorySpec)

/-- ITS FALSE NEIGHBOUR: 'it returns false'. Refute it at one input. -/
def fnExactCacheMemoryWrong : ChangeSpec := { name := "fnExactCacheMemory", fn := fun _ => fun
  | [d1, d2] => { results := [.lit (.bool false)], args := [d1, d2] }
  | _ => none }
def FnExactCacheMemoryWrongFalsely : Prop := fnExactCacheMemoryRow.holds Try.pinned (OpenSpec.ofChange fnExactCacheMemoryWrong)

/-- 'laws.FnExactDirtyLines': WHATEVER THE INPUT: true; the input reads as it did. -/
def fnExactDirtyLinesSpec : ChangeSpec := { name := "fnExactDirtyLines", fn := fun _ => fun
  | [d1, d2] => { results := [.lit (.bool true)], args := [d1, d2] }
  | _ => none }
def fnExactDirtyLinesRow : OpenClaim := { program := "ytngbddmbmkphcaa", sum := "0e2bcd35818c1cd728b3d18ffd1f510cae0d07561b9a7c222160d7b74b8c39bf", func := "loop.example/g01112/laws.FnExactDirtyLines", spec := "fnExactDirtyLines", unfollowed := true, recurses := true, plainKeys := false, apart := false }
def FnExactDirtyLinesSaid : Prop := fnExactDirtyLinesRow.holds Try.pinned (OpenSpec.ofChange fnExactDirtyLinesSpec)

/-- ITS FALSE NEIGHBOUR: 'it returns false'. Refute it at one input. -/
def fnExactDirtyLinesWrong : ChangeSpec := { name := "fnExactDirtyLines", fn := fun _ => fun
  | [d1, d2] => { results := [.lit (.bool false)], args := [d1, d2] }
  | _ => none }
def FnExactDirtyLinesWrongFalsely : Prop := fnExactDirtyLinesRow.holds Try.pinned (OpenSpec.ofChange fnExactDirtyLinesWrong)

/-- 'laws.FnExactTrafficOf': WHATEVER THE INPUT: true; the input reads as it did. -/
def fnExactTrafficOfSpec : ChangeSpec := { name := "fnExactTrafficOf", fn := fun _ => fun
  | [d1, d2] => { results := [.lit (.bool true)], args := [d1, d2] }
  | _ => none }
def fnExactTrafficOfRow : OpenClaim := { program := "ytngbddmbmkphcaa", sum := "0e2bcd35818c1cd728b3d18ffd1f510cae0d07561b9a7c222160d7b74b8c39bf", func := "loop.example/g01112/laws.FnExactTrafficOf", spec := "fnExactTrafficOf", unfollowed := true, recurses := true, plainKeys := false, apart := false }
def FnExactTrafficOfSaid : Prop := fnExactTrafficOfRow.holds Try.pinned (OpenSpec.ofChange fnExactTrafficOfSpec)

/-- ITS FALSE NEIGHBOUR: 'it returns false'. Refute it at one input. -/
def fnExactTrafficOfWrong : ChangeSpec := { name := "fnExactTrafficOf", fn := fun _ => fun
  | [d1, d2] => { results := [.lit (.bool false)], args := [d1, d2] }
  | _ => none }
def FnExactTrafficOfWrongFalsely : Prop := fnExactTrafficOfRow.holds Try.pinned (OpenSpec.ofChange fnExactTrafficOfWrong)

/- THE SECOND FORM. 'bulk': how many values and letters a reading holds, each counted each time it is reached (what is shared counts as often as it is met; a slice's spare places count too). A statement '..UptoSaid' is the law's where the arguments, and the package variables that the reading takes, are together of bulk at most 1048576: NARROWER than '..Said'. Prove '..Said' where nothing that the law and all that it calls make is longer than what came in: it says more and counts as full. Else prove '..UptoSaid'. A law counts once. -/
mutual
def uptoBulk {H : Type} : DataW H → Nat
  | .lit (.string bytes) => bytes.length + 1
  | .lit _ => 1
  | .nil => 1
  | .ptr d => uptoBulk d + 1
  | .slice elems spare => uptoBulkAll elems + uptoBulkAll spare + 1
  | .agg parts => uptoBulkAll parts + 1
  | .iface _ d => uptoBulk d + 1
  | .map entries => uptoBulkEntries entries + 1
  | .held _ => 1
def uptoBulkAll {H : Type} : List (DataW H) → Nat
  | [] => 0
  | d :: r => uptoBulk d + uptoBulkAll r
def uptoBulkEntries {H : Type} : List (Lit × DataW H) → Nat
  | [] => 0
  | x :: r => uptoBulkEntry x + uptoBulkEntries r
def uptoBulkEntry {H : Type} : Lit × DataW H → Nat
  | (.string bytes, d) => bytes.length + uptoBulk d + 1
  | (_, d) => uptoBulk d + 1
 end
def uptoSmall : (H : Type) → List (DataW H) → Bool := fun _ ds => decide (uptoBulkAll ds ≤ 1048576)
def OpenSpec.upto (s : _root_.Go.ChangeSpec) : _root_.Go.OpenSpec := { _root_.Go.OpenSpec.ofChange s with cond := some uptoSmall }

/-- 'laws.FnExactCacheReads', WHERE WHAT IT READS IS OF BULK AT MOST 1048576: true; the input reads as it did. -/
def fnExactCacheReadsUptoRow : OpenClaim := { program := "ytngbddmbmkphcaa", sum := "0e2bcd35818c1cd728b3d18ffd1f510cae0d07561b9a7c222160d7b74b8c39bf", func := "loop.example/g01112/laws.FnExactCacheReads", spec := "fnExactCacheReads", unfollowed := true, recurses := true, plainKeys := false, apart := false, narrowed := true }
def FnExactCacheReadsUptoSaid : Prop := fnExactCacheReadsUptoRow.holds Try.pinned (OpenSpec.upto fnExactCacheReadsSpec)

/-- 'laws.FnExactCacheMemory', WHERE WHAT IT READS IS OF BULK AT MOST 1048576: true; the input reads as it did. -/
def fnExactCacheMemoryUptoRow : OpenClaim := { program := "ytngbddmbmkphcaa", sum := "0e2bcd35818c1cd728b3d18ffd1f510cae0d07561b9a7c222160d7b74b8c39bf", func := "loop.example/g01112/laws.FnExactCacheMemory", spec := "fnExactCacheMemory", unfollowed := true, recurses := true, plainKeys := false, apart := false, narrowed := true }
def FnExactCacheMemoryUptoSaid : Prop := fnExactCacheMemoryUptoRow.holds Try.pinned (OpenSpec.upto fnExactCacheMemorySpec)

/-- 'laws.FnExactDirtyLines', WHERE WHAT IT READS IS OF BULK AT MOST 1048576: true; the input reads as it did. -/
def fnExactDirtyLinesUptoRow : OpenClaim := { program := "ytngbddmbmkphcaa", sum := "0e2bcd35818c1cd728b3d18ffd1f510cae0d07561b9a7c222160d7b74b8c39bf", func := "loop.example/g01112/laws.FnExactDirtyLines", spec := "fnExactDirtyLines", unfollowed := true, recurses := true, plainKeys := false, apart := false, narrowed := true }
def FnExactDirtyLinesUptoSaid : Prop := fnExactDirtyLinesUptoRow.holds Try.pinned (OpenSpec.upto fnExactDirtyLinesSpec)

/-- 'laws.FnExactTrafficOf', WHERE WHAT IT READS IS OF BULK AT MOST 1048576: true; the input reads as it did. -/
def fnExactTrafficOfUptoRow : OpenClaim := { program := "ytngbddmbmkphcaa", sum := "0e2bcd35818c1cd728b3d18ffd1f510cae0d07561b9a7c222160d7b74b8c39bf", func := "loop.example/g01112/laws.FnExactTrafficOf", spec := "fnExactTrafficOf", unfollowed := true, recurses := true, plainKeys := false, apart := false, narrowed := true }
def FnExactTrafficOfUptoSaid : Prop := fnExactTrafficOfUptoRow.holds Try.pinned (OpenSpec.upto fnExactTrafficOfSpec)

end Rows
end Go.Proofs.Ytngbddmbmkphcaa
