/-
  DERIVED. GIVEN WITH THE SEED: THE CARDS: each row of YtoiipedomgefaaaDoorRows.lean that lists a variable, with what it lists TIED to the program's text (the seventh form; the later family's looks); each row that meets fmt, with fmt's text TOLD by the authors' own Lean function (tested against real Go, not proved from fmt's source: count such statements apart). THE CARD IS WHAT COUNTS. Prove the row's statement (the work); the ties are given (YtoiipedomgefaaaDoorTie.lean); close each card by the builder's one call (the guide's Derived/Test/ToyasCard.lean, 'card_holds'). Laid BY PROGRAM, IN A SANDBOX (cutbox-door.mjs). By AI agents, Wed Nov 11 2026. No macro, syntax, notation, axiom, sorry.
-/
import Derived.Test.YtoiipedomgefaaaDoorRows
import GoSem.ClaimSeven
namespace Go.Proofs.YtoiipedomgefaaaDoor
namespace Rows

/-- THE TIED CARD OF 'laws.FnExactMeetClasses'. -/
def fnExactMeetClassesCard : Claim7 := { stood := { row := fnExactMeetClassesRow, standIns := [], harness := (true, "570655ab67c3797f766e68af0ec7e9d4567a9477317ca65c9f0374c871cd7368"), looks := true }, kinds := [], alts := [], laidByText := true, laidKinds := [.sentinel], laidTests := true, laidLooks := .later }
def FnExactMeetClassesCardSaid : Prop := Claim7.holds Tryd.pinned (.plain (OpenSpec.ofChange fnExactMeetClassesSpec)) fnExactMeetClassesCard

/-- THE TIED CARD OF 'laws.FnExactIsWithin'. -/
def fnExactIsWithinCard : Claim7 := { stood := { row := fnExactIsWithinRow, standIns := [], harness := (true, "570655ab67c3797f766e68af0ec7e9d4567a9477317ca65c9f0374c871cd7368"), looks := true }, kinds := [], alts := [], laidByText := true, laidKinds := [.sentinel], laidTests := true, laidLooks := .later }
def FnExactIsWithinCardSaid : Prop := Claim7.holds Tryd.pinned (.plain (OpenSpec.ofChange fnExactIsWithinSpec)) fnExactIsWithinCard

/-- THE TIED CARD OF 'laws.FnExactSymmetryBasis'. -/
def fnExactSymmetryBasisCard : Claim7 := { stood := { row := fnExactSymmetryBasisRow, standIns := [], harness := (true, "570655ab67c3797f766e68af0ec7e9d4567a9477317ca65c9f0374c871cd7368"), looks := true }, kinds := [], alts := [], laidByText := true, laidKinds := [.sentinel], laidTests := true, laidLooks := .later }
def FnExactSymmetryBasisCardSaid : Prop := Claim7.holds Tryd.pinned (.plain (OpenSpec.ofChange fnExactSymmetryBasisSpec)) fnExactSymmetryBasisCard

/-- THE TIED CARD OF 'laws.FnExactIsFinite'. -/
def fnExactIsFiniteCard : Claim7 := { stood := { row := fnExactIsFiniteRow, standIns := [], harness := (true, "570655ab67c3797f766e68af0ec7e9d4567a9477317ca65c9f0374c871cd7368"), looks := true }, kinds := [], alts := [], laidByText := true, laidKinds := [.sentinel], laidTests := true, laidLooks := .later }
def FnExactIsFiniteCardSaid : Prop := Claim7.holds Tryd.pinned (.plain (OpenSpec.ofChange fnExactIsFiniteSpec)) fnExactIsFiniteCard

/-- THE TIED CARD OF 'laws.FnExactIsSumClosed'. -/
def fnExactIsSumClosedCard : Claim7 := { stood := { row := fnExactIsSumClosedRow, standIns := [], harness := (true, "570655ab67c3797f766e68af0ec7e9d4567a9477317ca65c9f0374c871cd7368"), looks := true }, kinds := [], alts := [], laidByText := true, laidKinds := [.sentinel], laidTests := true, laidLooks := .later }
def FnExactIsSumClosedCardSaid : Prop := Claim7.holds Tryd.pinned (.plain (OpenSpec.ofChange fnExactIsSumClosedSpec)) fnExactIsSumClosedCard

/-- THE TIED CARD OF 'laws.FnExactFirstBeyond'. -/
def fnExactFirstBeyondCard : Claim7 := { stood := { row := fnExactFirstBeyondRow, standIns := [], harness := (true, "570655ab67c3797f766e68af0ec7e9d4567a9477317ca65c9f0374c871cd7368"), looks := true }, kinds := [], alts := [], laidByText := true, laidKinds := [.sentinel], laidTests := true, laidLooks := .later }
def FnExactFirstBeyondCardSaid : Prop := Claim7.holds Tryd.pinned (.plain (OpenSpec.ofChange fnExactFirstBeyondSpec)) fnExactFirstBeyondCard

/-- THE SECOND FORM's CARD OF 'laws.FnExactMeetClasses'. -/
def fnExactMeetClassesUptoCard : Claim7 := { stood := { row := fnExactMeetClassesUptoRow, standIns := [], harness := (true, "570655ab67c3797f766e68af0ec7e9d4567a9477317ca65c9f0374c871cd7368"), looks := true }, kinds := [], alts := [], laidByText := true, laidKinds := [.sentinel], laidTests := true, laidLooks := .later }
def FnExactMeetClassesUptoCardSaid : Prop := Claim7.holds Tryd.pinned (.plain (OpenSpec.upto fnExactMeetClassesSpec)) fnExactMeetClassesUptoCard

/-- THE SECOND FORM's CARD OF 'laws.FnExactIsWithin'. -/
def fnExactIsWithinUptoCard : Claim7 := { stood := { row := fnExactIsWithinUptoRow, standIns := [], harness := (true, "570655ab67c3797f766e68af0ec7e9d4567a9477317ca65c9f0374c871cd7368"), looks := true }, kinds := [], alts := [], laidByText := true, laidKinds := [.sentinel], laidTests := true, laidLooks := .later }
def FnExactIsWithinUptoCardSaid : Prop := Claim7.holds Tryd.pinned (.plain (OpenSpec.upto fnExactIsWithinSpec)) fnExactIsWithinUptoCard

/-- THE SECOND FORM's CARD OF 'laws.FnExactSymmetryBasis'. -/
def fnExactSymmetryBasisUptoCard : Claim7 := { stood := { row := fnExactSymmetryBasisUptoRow, standIns := [], harness := (true, "570655ab67c3797f766e68af0ec7e9d4567a9477317ca65c9f0374c871cd7368"), looks := true }, kinds := [], alts := [], laidByText := true, laidKinds := [.sentinel], laidTests := true, laidLooks := .later }
def FnExactSymmetryBasisUptoCardSaid : Prop := Claim7.holds Tryd.pinned (.plain (OpenSpec.upto fnExactSymmetryBasisSpec)) fnExactSymmetryBasisUptoCard

/-- THE SECOND FORM's CARD OF 'laws.FnExactIsFinite'. -/
def fnExactIsFiniteUptoCard : Claim7 := { stood := { row := fnExactIsFiniteUptoRow, standIns := [], harness := (true, "570655ab67c3797f766e68af0ec7e9d4567a9477317ca65c9f0374c871cd7368"), looks := true }, kinds := [], alts := [], laidByText := true, laidKinds := [.sentinel], laidTests := true, laidLooks := .later }
def FnExactIsFiniteUptoCardSaid : Prop := Claim7.holds Tryd.pinned (.plain (OpenSpec.upto fnExactIsFiniteSpec)) fnExactIsFiniteUptoCard

/-- THE SECOND FORM's CARD OF 'laws.FnExactIsSumClosed'. -/
def fnExactIsSumClosedUptoCard : Claim7 := { stood := { row := fnExactIsSumClosedUptoRow, standIns := [], harness := (true, "570655ab67c3797f766e68af0ec7e9d4567a9477317ca65c9f0374c871cd7368"), looks := true }, kinds := [], alts := [], laidByText := true, laidKinds := [.sentinel], laidTests := true, laidLooks := .later }
def FnExactIsSumClosedUptoCardSaid : Prop := Claim7.holds Tryd.pinned (.plain (OpenSpec.upto fnExactIsSumClosedSpec)) fnExactIsSumClosedUptoCard

/-- THE SECOND FORM's CARD OF 'laws.FnExactFirstBeyond'. -/
def fnExactFirstBeyondUptoCard : Claim7 := { stood := { row := fnExactFirstBeyondUptoRow, standIns := [], harness := (true, "570655ab67c3797f766e68af0ec7e9d4567a9477317ca65c9f0374c871cd7368"), looks := true }, kinds := [], alts := [], laidByText := true, laidKinds := [.sentinel], laidTests := true, laidLooks := .later }
def FnExactFirstBeyondUptoCardSaid : Prop := Claim7.holds Tryd.pinned (.plain (OpenSpec.upto fnExactFirstBeyondSpec)) fnExactFirstBeyondUptoCard
end Rows
end Go.Proofs.YtoiipedomgefaaaDoor
