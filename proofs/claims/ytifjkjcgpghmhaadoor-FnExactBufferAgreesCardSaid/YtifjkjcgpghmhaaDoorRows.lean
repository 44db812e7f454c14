/-
  NARROWER THAN 'FOR EVERY INPUT', by the rows' own cells (each row's printed sentence says how): FnExactBufferAgrees: ifaces, laid · FnExactWalkPage: ifaces, laid · FnExactMappedPages: ifaces, laid · FnExactFreeFrames: ifaces, laid · FnExactDirtyPages: ifaces, laid.
  DERIVED. THE GIVEN ROWS OF THIS SEAT. 5 by the template 'for every input the law returns true; each argument reads behind the call as it read before'; 0 by the template 'total and deterministic' (their statements: YtifjkjcgpghmhaaDoorTotals.lean).
  GIVEN WITH THE SEED: the statements are not yours to turn. If you find one false, say at which input.
  Laid BY PROGRAM, IN A SANDBOX (cutbox-rows.mjs): the forced cells as the released guide's own fill.sh prints them over the translation d9e6a08d00411eaa… (all of the seat's roots in one cut). By AI agents, Wed Nov 11 2026. No macro, syntax, notation, axiom, sorry.
-/
import Derived.Test.YtifjkjcgpghmhaaDoorChecked
import GoSem.Claim
import GoSem.ClaimJoined
import GoSem.ClaimMapViews
import Derived.JoinedTies
import Derived.KernelRfl
namespace Go.Proofs.YtifjkjcgpghmhaaDoor
/- THE CELL 'sum', in the pinned program and in every row, IS THE sha256 OF THE DUMP (.gsa) THAT YtifjkjcgpghmhaaDoorProg.lean LOADS. Nothing in Lean hashes anything: it is a label: what it is worth is what the hold of that sum in a sandbox is worth. -/
noncomputable def Tryd.pinned : Pinned := { name := "ytifjkjcgpghmhaadoor", sum := "d9e6a08d00411eaaac91f466be8c0f0e0a2012f643e762bf8048245da290ddf2", checked := Tryd.checked }
namespace Rows
def none {H : Type} : Left H := { results := [], args := [] }

/- WHAT THE LISTED PACKAGE-LEVEL VARIABLES READ AS WHEN THE CALL BEGINS. Each datum BY PROGRAM (the guide's laid-datum.mjs) off the statement by which the dump's own 'gosem.cut.vars' lays the variable. In a bare row this is a premise. The card (YtifjkjcgpghmhaaDoorCards.lean) ties it to the program's text. -/
def laid_loop_example_g01112_impl_errNoPage {H : Type} : DataW H := .iface "*errors.errorString" (.ptr (.agg [.lit (.string [116, 104, 101, 32, 112, 97, 103, 101, 32, 105, 115, 32, 110, 111, 116, 32, 109, 97, 112, 112, 101, 100])]))

/-- 'laws.FnExactBufferAgrees': WHATEVER THE INPUT: true; the input reads as it did. -/
def fnExactBufferAgreesSpec : ChangeSpec := { name := "fnExactBufferAgrees", vars := ["loop.example/g01112/impl.errNoPage"], fn := fun _ => fun
  | [d, g1] => { results := [.lit (.bool true)], args := [d], vars := [g1] }
  | _ => none }
def fnExactBufferAgreesRow : OpenClaim := { program := "ytifjkjcgpghmhaadoor", sum := "d9e6a08d00411eaaac91f466be8c0f0e0a2012f643e762bf8048245da290ddf2", func := "loop.example/g01112/laws.FnExactBufferAgrees", spec := "fnExactBufferAgrees", unfollowed := true, recurses := true, named := ["loop.example/g01112/impl.errNoPage"], ifaces := true, apart := false, laid := [("loop.example/g01112/impl.errNoPage", laid_loop_example_g01112_impl_errNoPage)] }
def FnExactBufferAgreesSaid : Prop := fnExactBufferAgreesRow.holds Tryd.pinned (OpenSpec.ofChange fnExactBufferAgreesSpec)

/-- ITS FALSE NEIGHBOUR: 'it returns false'. Refute it at one input. -/
def fnExactBufferAgreesWrong : ChangeSpec := { name := "fnExactBufferAgrees", vars := ["loop.example/g01112/impl.errNoPage"], fn := fun _ => fun
  | [d, g1] => { results := [.lit (.bool false)], args := [d], vars := [g1] }
  | _ => none }
def FnExactBufferAgreesWrongFalsely : Prop := fnExactBufferAgreesRow.holds Tryd.pinned (OpenSpec.ofChange fnExactBufferAgreesWrong)

/-- 'laws.FnExactWalkPage': WHATEVER THE INPUT: true; the input reads as it did. -/
def fnExactWalkPageSpec : ChangeSpec := { name := "fnExactWalkPage", vars := ["loop.example/g01112/impl.errNoPage"], fn := fun _ => fun
  | [d1, d2, g1] => { results := [.lit (.bool true)], args := [d1, d2], vars := [g1] }
  | _ => none }
def fnExactWalkPageRow : OpenClaim := { program := "ytifjkjcgpghmhaadoor", sum := "d9e6a08d00411eaaac91f466be8c0f0e0a2012f643e762bf8048245da290ddf2", func := "loop.example/g01112/laws.FnExactWalkPage", spec := "fnExactWalkPage", unfollowed := true, recurses := true, named := ["loop.example/g01112/impl.errNoPage"], ifaces := true, apart := false, laid := [("loop.example/g01112/impl.errNoPage", laid_loop_example_g01112_impl_errNoPage)] }
def FnExactWalkPageSaid : Prop := fnExactWalkPageRow.holds Tryd.pinned (OpenSpec.ofChange fnExactWalkPageSpec)

/-- ITS FALSE NEIGHBOUR: 'it returns false'. Refute it at one input. -/
def fnExactWalkPageWrong : ChangeSpec := { name := "fnExactWalkPage", vars := ["loop.example/g01112/impl.errNoPage"], fn := fun _ => fun
  | [d1, d2, g1] => { results := [.lit (.bool false)], args := [d1, d2], vars := [g1] }
  | _ => none }
def FnExactWalkPageWrongFalsely : Prop := fnExactWalkPageRow.holds Tryd.pinned (OpenSpec.ofChange fnExactWalkPageWrong)

/-- 'laws.FnExactMappedPages': WHATEVER THE INPUT: true; the input reads as it did. -/
def fnExactMappedPagesSpec : ChangeSpec := { name := "fnExactMappedPages", vars := ["loop.example/g01112/impl.errNoPage"], fn := fun _ => fun
  | [d, g1] => { results := [.lit (.bool true)], args := [d], vars := [g1] }
  | _ => none }
def fnExactMappedPagesRow : OpenClaim := { program := "ytifjkjcgpghmhaadoor", sum := "d9e6a08d00411eaaac91f466be8c0f0e0a2012f643e762bf8048245da290ddf2", func := "loop.example/g01112/laws.FnExactMappedPages", spec := "fnExactMappedPages", unfollowed := true, recurses := true, named := ["loop.example/g01112/impl.errNoPage"], ifaces := true, apart := false, laid := [("loop.example/g01112/impl.errNoPage", laid_loop_example_g01112_impl_errNoPage)] }
def FnExactMappedPagesSaid : Prop := fnExactMappedPagesRow.holds Tryd.pinned (OpenSpec.ofChange fnExactMappedPagesSpec)

/-- ITS FALSE NEIGHBOUR: 'it returns false'. Refute it at one input. -/
def fnExactMappedPagesWrong : ChangeSpec := { name := "fnExactMappedPages", vars := ["loop.example/g01112/impl.errNoPage"], fn := fun _ => fun
  | [d, g1] => { results := [.lit (.bool false)], args := [d], vars := [g1] }
  | _ => none }
def FnExactMappedPagesWrongFalsely : Prop := fnExactMappedPagesRow.holds Tryd.pinned (OpenSpec.ofChange fnExactMappedPagesWrong)

/-- 'laws.FnExactFreeFrames': WHATEVER THE INPUT: true; the input reads as it did. -/
def fnExactFreeFramesSpec : ChangeSpec := { name := "fnExactFreeFrames", vars := ["loop.example/g01112/impl.errNoPage"], fn := fun _ => fun
  | [d, g1] => { results := [.lit (.bool true)], args := [d], vars := [g1] }
  | _ => none }
def fnExactFreeFramesRow : OpenClaim := { program := "ytifjkjcgpghmhaadoor", sum := "d9e6a08d00411eaaac91f466be8c0f0e0a2012f643e762bf8048245da290ddf2", func := "loop.example/g01112/laws.FnExactFreeFrames", spec := "fnExactFreeFrames", unfollowed := true, recurses := true, named := ["loop.example/g01112/impl.errNoPage"], ifaces := true, apart := false, laid := [("loop.example/g01112/impl.errNoPage", laid_loop_example_g01112_impl_errNoPage)] }
def FnExactFreeFramesSaid : Prop := fnExactFreeFramesRow.holds Tryd.pinned (OpenSpec.ofChange fnExactFreeFramesSpec)

/-- ITS FALSE NEIGHBOUR: 'it returns false'. Refute it at one input. -/
def fnExactFreeFramesWrong : ChangeSpec := { name := "fnExactFreeFrames", vars := ["loop.example/g01112/impl.errNoPage"], fn := fun _ => fun
  | [d, g1] => { results := [.lit (.bool false)], args := [d], vars := [g1] }
  | _ => none }
def FnExactFreeFramesWrongFalsely : Prop := fnExactFreeFramesRow.holds Tryd.pinned (OpenSpec.ofChange fnExactFreeFramesWrong)

/-- 'laws.FnExactDirtyPages': WHATEVER THE INPUT: true; the input reads as it did. -/
def fnExactDirtyPagesSpec : ChangeSpec := { name := "fnExactDirtyPages", vars := ["loop.example/g01112/impl.errNoPage"], fn := fun _ => fun
  | [d, g1] => { results := [.lit (.bool true)], args := [d], vars := [g1] }
  | _ => none }
def fnExactDirtyPagesRow : OpenClaim := { program := "ytifjkjcgpghmhaadoor", sum := "d9e6a08d00411eaaac91f466be8c0f0e0a2012f643e762bf8048245da290ddf2", func := "loop.example/g01112/laws.FnExactDirtyPages", spec := "fnExactDirtyPages", unfollowed := true, recurses := true, named := ["loop.example/g01112/impl.errNoPage"], ifaces := true, apart := false, laid := [("loop.example/g01112/impl.errNoPage", laid_loop_example_g01112_impl_errNoPage)] }
def FnExactDirtyPagesSaid : Prop := fnExactDirtyPagesRow.holds Tryd.pinned (OpenSpec.ofChange fnExactDirtyPagesSpec)

/-- ITS FALSE NEIGHBOUR: 'it returns false'. Refute it at one input. -/
def fnExactDirtyPagesWrong : ChangeSpec := { name := "fnExactDirtyPages", vars := ["loop.example/g01112/impl.errNoPage"], fn := fun _ => fun
  | [d, g1] => { results := [.lit (.bool false)], args := [d], vars := [g1] }
  | _ => none }
def FnExactDirtyPagesWrongFalsely : Prop := fnExactDirtyPagesRow.holds Tryd.pinned (OpenSpec.ofChange fnExactDirtyPagesWrong)

/- THE SECOND FORM. 'bulk': how many values and letters a reading holds, each counted each time it is reached (what is shared counts as often as it is met; a slice's spare places count too). A statement '..UptoSaid' is the law's where the arguments, and the package variables that the reading takes, are together of bulk at most 1048576: NARROWER than '..Said'. Prove '..Said' where nothing that the law and all that it calls make is longer than what came in: it says more and counts as full. Else prove '..UptoSaid'. A law counts once. -/
mutual
def uptoBulk {H : Type} : DataW H → Nat
  | .lit (.string bytes) => bytes.length + 1
  | .lit _ => 1
  | .nil => 1
  | .ptr d => uptoBulk d + 1
  | .slice elems spare => uptoBulkAll elems + uptoBulkAll spare + 1
  | .agg parts => uptoBulkAll parts + 1
  | .iface _ d => uptoBulk d + 1
  | .map entries => uptoBulkEntries entries + 1
  | .held _ => 1
def uptoBulkAll {H : Type} : List (DataW H) → Nat
  | [] => 0
  | d :: r => uptoBulk d + uptoBulkAll r
def uptoBulkEntries {H : Type} : List (Lit × DataW H) → Nat
  | [] => 0
  | x :: r => uptoBulkEntry x + uptoBulkEntries r
def uptoBulkEntry {H : Type} : Lit × DataW H → Nat
  | (.string bytes, d) => bytes.length + uptoBulk d + 1
  | (_, d) => uptoBulk d + 1
 end
def uptoSmall : (H : Type) → List (DataW H) → Bool := fun _ ds => decide (uptoBulkAll ds ≤ 1048576)
def OpenSpec.upto (s : _root_.Go.ChangeSpec) : _root_.Go.OpenSpec := { _root_.Go.OpenSpec.ofChange s with cond := some uptoSmall }

/-- 'laws.FnExactBufferAgrees', WHERE WHAT IT READS IS OF BULK AT MOST 1048576: true; the input reads as it did. -/
def fnExactBufferAgreesUptoRow : OpenClaim := { program := "ytifjkjcgpghmhaadoor", sum := "d9e6a08d00411eaaac91f466be8c0f0e0a2012f643e762bf8048245da290ddf2", func := "loop.example/g01112/laws.FnExactBufferAgrees", spec := "fnExactBufferAgrees", unfollowed := true, recurses := true, named := ["loop.example/g01112/impl.errNoPage"], ifaces := true, apart := false, laid := [("loop.example/g01112/impl.errNoPage", laid_loop_example_g01112_impl_errNoPage)], narrowed := true }
def FnExactBufferAgreesUptoSaid : Prop := fnExactBufferAgreesUptoRow.holds Tryd.pinned (OpenSpec.upto fnExactBufferAgreesSpec)

/-- 'laws.FnExactWalkPage', WHERE WHAT IT READS IS OF BULK AT MOST 1048576: true; the input reads as it did. -/
def fnExactWalkPageUptoRow : OpenClaim := { program := "ytifjkjcgpghmhaadoor", sum := "d9e6a08d00411eaaac91f466be8c0f0e0a2012f643e762bf8048245da290ddf2", func := "loop.example/g01112/laws.FnExactWalkPage", spec := "fnExactWalkPage", unfollowed := true, recurses := true, named := ["loop.example/g01112/impl.errNoPage"], ifaces := true, apart := false, laid := [("loop.example/g01112/impl.errNoPage", laid_loop_example_g01112_impl_errNoPage)], narrowed := true }
def FnExactWalkPageUptoSaid : Prop := fnExactWalkPageUptoRow.holds Tryd.pinned (OpenSpec.upto fnExactWalkPageSpec)

/-- 'laws.FnExactMappedPages', WHERE WHAT IT READS IS OF BULK AT MOST 1048576: true; the input reads as it did. -/
def fnExactMappedPagesUptoRow : OpenClaim := { program := "ytifjkjcgpghmhaadoor", sum := "d9e6a08d00411eaaac91f466be8c0f0e0a2012f643e762bf8048245da290ddf2", func := "loop.example/g01112/laws.FnExactMappedPages", spec := "fnExactMappedPages", unfollowed := true, recurses := true, named := ["loop.example/g01112/impl.errNoPage"], ifaces := true, apart := false, laid := [("loop.example/g01112/impl.errNoPage", laid_loop_example_g01112_impl_errNoPage)], narrowed := true }
def FnExactMappedPagesUptoSaid : Prop := fnExactMappedPagesUptoRow.holds Tryd.pinned (OpenSpec.upto fnExactMappedPagesSpec)

/-- 'laws.FnExactFreeFrames', WHERE WHAT IT READS IS OF BULK AT MOST 1048576: true; the input reads as it did. -/
def fnExactFreeFramesUptoRow : OpenClaim := { program := "ytifjkjcgpghmhaadoor", sum := "d9e6a08d00411eaaac91f466be8c0f0e0a2012f643e762bf8048245da290ddf2", func := "loop.example/g01112/laws.FnExactFreeFrames", spec := "fnExactFreeFrames", unfollowed := true, recurses := true, named := ["loop.example/g01112/impl.errNoPage"], ifaces := true, apart := false, laid := [("loop.example/g01112/impl.errNoPage", laid_loop_example_g01112_impl_errNoPage)], narrowed := true }
def FnExactFreeFramesUptoSaid : Prop := fnExactFreeFramesUptoRow.holds Tryd.pinned (OpenSpec.upto fnExactFreeFramesSpec)

/-- 'laws.FnExactDirtyPages', WHERE WHAT IT READS IS OF BULK AT MOST 1048576: true; the input reads as it did. -/
def fnExactDirtyPagesUptoRow : OpenClaim := { program := "ytifjkjcgpghmhaadoor", sum := "d9e6a08d00411eaaac91f466be8c0f0e0a2012f643e762bf8048245da290ddf2", func := "loop.example/g01112/laws.FnExactDirtyPages", spec := "fnExactDirtyPages", unfollowed := true, recurses := true, named := ["loop.example/g01112/impl.errNoPage"], ifaces := true, apart := false, laid := [("loop.example/g01112/impl.errNoPage", laid_loop_example_g01112_impl_errNoPage)], narrowed := true }
def FnExactDirtyPagesUptoSaid : Prop := fnExactDirtyPagesUptoRow.holds Tryd.pinned (OpenSpec.upto fnExactDirtyPagesSpec)

end Rows
end Go.Proofs.YtifjkjcgpghmhaaDoor
