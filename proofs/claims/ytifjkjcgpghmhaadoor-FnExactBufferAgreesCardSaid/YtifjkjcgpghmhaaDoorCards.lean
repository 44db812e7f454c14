/-
  DERIVED. GIVEN WITH THE SEED: THE CARDS: each row of YtifjkjcgpghmhaaDoorRows.lean that lists a variable, with what it lists TIED to the program's text (the seventh form; the later family's looks); each row that meets fmt, with fmt's text TOLD by the authors' own Lean function (tested against real Go, not proved from fmt's source: count such statements apart). THE CARD IS WHAT COUNTS. Prove the row's statement (the work); the ties are given (YtifjkjcgpghmhaaDoorTie.lean); close each card by the builder's one call (the guide's Derived/Test/ToyasCard.lean, 'card_holds'). Laid BY PROGRAM, IN A SANDBOX (cutbox-door.mjs). By AI agents, Wed Nov 11 2026. No macro, syntax, notation, axiom, sorry.
-/
import Derived.Test.YtifjkjcgpghmhaaDoorRows
import GoSem.ClaimSeven
namespace Go.Proofs.YtifjkjcgpghmhaaDoor
namespace Rows

/-- THE TIED CARD OF 'laws.FnExactBufferAgrees'. -/
def fnExactBufferAgreesCard : Claim7 := { stood := { row := fnExactBufferAgreesRow, standIns := [], harness := (true, "036f240b25b79a4efc05d87d83d714dc8e8baade2d0f6539295296affc8ebae4"), looks := false }, kinds := [], alts := [], laidByText := true, laidKinds := [.sentinel], laidTests := true, laidLooks := .later }
def FnExactBufferAgreesCardSaid : Prop := Claim7.holds Tryd.pinned (.plain (OpenSpec.ofChange fnExactBufferAgreesSpec)) fnExactBufferAgreesCard

/-- THE TIED CARD OF 'laws.FnExactWalkPage'. -/
def fnExactWalkPageCard : Claim7 := { stood := { row := fnExactWalkPageRow, standIns := [], harness := (true, "036f240b25b79a4efc05d87d83d714dc8e8baade2d0f6539295296affc8ebae4"), looks := false }, kinds := [], alts := [], laidByText := true, laidKinds := [.sentinel], laidTests := true, laidLooks := .later }
def FnExactWalkPageCardSaid : Prop := Claim7.holds Tryd.pinned (.plain (OpenSpec.ofChange fnExactWalkPageSpec)) fnExactWalkPageCard

/-- THE TIED CARD OF 'laws.FnExactMappedPages'. -/
def fnExactMappedPagesCard : Claim7 := { stood := { row := fnExactMappedPagesRow, standIns := [], harness := (true, "036f240b25b79a4efc05d87d83d714dc8e8baade2d0f6539295296affc8ebae4"), looks := false }, kinds := [], alts := [], laidByText := true, laidKinds := [.sentinel], laidTests := true, laidLooks := .later }
def FnExactMappedPagesCardSaid : Prop := Claim7.holds Tryd.pinned (.plain (OpenSpec.ofChange fnExactMappedPagesSpec)) fnExactMappedPagesCard

/-- THE TIED CARD OF 'laws.FnExactFreeFrames'. -/
def fnExactFreeFramesCard : Claim7 := { stood := { row := fnExactFreeFramesRow, standIns := [], harness := (true, "036f240b25b79a4efc05d87d83d714dc8e8baade2d0f6539295296affc8ebae4"), looks := false }, kinds := [], alts := [], laidByText := true, laidKinds := [.sentinel], laidTests := true, laidLooks := .later }
def FnExactFreeFramesCardSaid : Prop := Claim7.holds Tryd.pinned (.plain (OpenSpec.ofChange fnExactFreeFramesSpec)) fnExactFreeFramesCard

/-- THE TIED CARD OF 'laws.FnExactDirtyPages'. -/
def fnExactDirtyPagesCard : Claim7 := { stood := { row := fnExactDirtyPagesRow, standIns := [], harness := (true, "036f240b25b79a4efc05d87d83d714dc8e8baade2d0f6539295296affc8ebae4"), looks := false }, kinds := [], alts := [], laidByText := true, laidKinds := [.sentinel], laidTests := true, laidLooks := .later }
def FnExactDirtyPagesCardSaid : Prop := Claim7.holds Tryd.pinned (.plain (OpenSpec.ofChange fnExactDirtyPagesSpec)) fnExactDirtyPagesCard

/-- THE SECOND FORM's CARD OF 'laws.FnExactBufferAgrees'. -/
def fnExactBufferAgreesUptoCard : Claim7 := { stood := { row := fnExactBufferAgreesUptoRow, standIns := [], harness := (true, "036f240b25b79a4efc05d87d83d714dc8e8baade2d0f6539295296affc8ebae4"), looks := false }, kinds := [], alts := [], laidByText := true, laidKinds := [.sentinel], laidTests := true, laidLooks := .later }
def FnExactBufferAgreesUptoCardSaid : Prop := Claim7.holds Tryd.pinned (.plain (OpenSpec.upto fnExactBufferAgreesSpec)) fnExactBufferAgreesUptoCard

/-- THE SECOND FORM's CARD OF 'laws.FnExactWalkPage'. -/
def fnExactWalkPageUptoCard : Claim7 := { stood := { row := fnExactWalkPageUptoRow, standIns := [], harness := (true, "036f240b25b79a4efc05d87d83d714dc8e8baade2d0f6539295296affc8ebae4"), looks := false }, kinds := [], alts := [], laidByText := true, laidKinds := [.sentinel], laidTests := true, laidLooks := .later }
def FnExactWalkPageUptoCardSaid : Prop := Claim7.holds Tryd.pinned (.plain (OpenSpec.upto fnExactWalkPageSpec)) fnExactWalkPageUptoCard

/-- THE SECOND FORM's CARD OF 'laws.FnExactMappedPages'. -/
def fnExactMappedPagesUptoCard : Claim7 := { stood := { row := fnExactMappedPagesUptoRow, standIns := [], harness := (true, "036f240b25b79a4efc05d87d83d714dc8e8baade2d0f6539295296affc8ebae4"), looks := false }, kinds := [], alts := [], laidByText := true, laidKinds := [.sentinel], laidTests := true, laidLooks := .later }
def FnExactMappedPagesUptoCardSaid : Prop := Claim7.holds Tryd.pinned (.plain (OpenSpec.upto fnExactMappedPagesSpec)) fnExactMappedPagesUptoCard

/-- THE SECOND FORM's CARD OF 'laws.FnExactFreeFrames'. -/
def fnExactFreeFramesUptoCard : Claim7 := { stood := { row := fnExactFreeFramesUptoRow, standIns := [], harness := (true, "036f240b25b79a4efc05d87d83d714dc8e8baade2d0f6539295296affc8ebae4"), looks := false }, kinds := [], alts := [], laidByText := true, laidKinds := [.sentinel], laidTests := true, laidLooks := .later }
def FnExactFreeFramesUptoCardSaid : Prop := Claim7.holds Tryd.pinned (.plain (OpenSpec.upto fnExactFreeFramesSpec)) fnExactFreeFramesUptoCard

/-- THE SECOND FORM's CARD OF 'laws.FnExactDirtyPages'. -/
def fnExactDirtyPagesUptoCard : Claim7 := { stood := { row := fnExactDirtyPagesUptoRow, standIns := [], harness := (true, "036f240b25b79a4efc05d87d83d714dc8e8baade2d0f6539295296affc8ebae4"), looks := false }, kinds := [], alts := [], laidByText := true, laidKinds := [.sentinel], laidTests := true, laidLooks := .later }
def FnExactDirtyPagesUptoCardSaid : Prop := Claim7.holds Tryd.pinned (.plain (OpenSpec.upto fnExactDirtyPagesSpec)) fnExactDirtyPagesUptoCard
end Rows
end Go.Proofs.YtifjkjcgpghmhaaDoor
