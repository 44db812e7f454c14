/-
  DERIVED. GIVEN WITH THE SEED: THE CARDS: each row of YtgfablkdfablfaaDoorRows.lean that lists a variable, with what it lists TIED to the program's text (the seventh form; the later family's looks); each row that meets fmt, with fmt's text TOLD by the authors' own Lean function (tested against real Go, not proved from fmt's source: count such statements apart). THE CARD IS WHAT COUNTS. Prove the row's statement (the work); the ties are given (YtgfablkdfablfaaDoorTie.lean); close each card by the builder's one call (the guide's Derived/Test/ToyasCard.lean, 'card_holds'). Laid BY PROGRAM, IN A SANDBOX (cutbox-door.mjs). By AI agents, Wed Nov 11 2026. No macro, syntax, notation, axiom, sorry.
-/
import Derived.Test.YtgfablkdfablfaaDoorRows
import GoSem.ClaimSeven
namespace Go.Proofs.YtgfablkdfablfaaDoor
namespace Rows

/-- THE TIED CARD OF 'laws.FnExactKernelOf'. -/
def fnExactKernelOfCard : Claim7 := { stood := { row := fnExactKernelOfRow, standIns := [], harness := (true, "f8546114afc714351c29aec9307265293916657920a72cf9794f12429d986435"), looks := false }, kinds := [], alts := [], laidByText := true, laidKinds := [.data], laidTests := true, laidLooks := .later }
def FnExactKernelOfCardSaid : Prop := Claim7.holds Tryd.pinned (.plain (OpenSpec.ofChange fnExactKernelOfSpec)) fnExactKernelOfCard

/-- THE TIED CARD OF 'laws.FnExactSetMembers'. -/
def fnExactSetMembersCard : Claim7 := { stood := { row := fnExactSetMembersRow, standIns := [], harness := (true, "f8546114afc714351c29aec9307265293916657920a72cf9794f12429d986435"), looks := false }, kinds := [], alts := [], laidByText := true, laidKinds := [.data], laidTests := true, laidLooks := .later }
def FnExactSetMembersCardSaid : Prop := Claim7.holds Tryd.pinned (.plain (OpenSpec.ofChange fnExactSetMembersSpec)) fnExactSetMembersCard

/-- THE SECOND FORM's CARD OF 'laws.FnExactKernelOf'. -/
def fnExactKernelOfUptoCard : Claim7 := { stood := { row := fnExactKernelOfUptoRow, standIns := [], harness := (true, "f8546114afc714351c29aec9307265293916657920a72cf9794f12429d986435"), looks := false }, kinds := [], alts := [], laidByText := true, laidKinds := [.data], laidTests := true, laidLooks := .later }
def FnExactKernelOfUptoCardSaid : Prop := Claim7.holds Tryd.pinned (.plain (OpenSpec.upto fnExactKernelOfSpec)) fnExactKernelOfUptoCard

/-- THE SECOND FORM's CARD OF 'laws.FnExactSetMembers'. -/
def fnExactSetMembersUptoCard : Claim7 := { stood := { row := fnExactSetMembersUptoRow, standIns := [], harness := (true, "f8546114afc714351c29aec9307265293916657920a72cf9794f12429d986435"), looks := false }, kinds := [], alts := [], laidByText := true, laidKinds := [.data], laidTests := true, laidLooks := .later }
def FnExactSetMembersUptoCardSaid : Prop := Claim7.holds Tryd.pinned (.plain (OpenSpec.upto fnExactSetMembersSpec)) fnExactSetMembersUptoCard
end Rows
end Go.Proofs.YtgfablkdfablfaaDoor
