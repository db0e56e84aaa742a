/-
  DERIVED. GIVEN WITH THE SEED: THE CARDS: each row of YtoiipedomgefaaaGreatDoorRows.lean that lists a variable, with what it lists TIED to the program's text (the seventh form; the later family's looks); each row that meets fmt, with fmt's text TOLD by the authors' own Lean function (tested against real Go, not proved from fmt's source: count such statements apart). THE CARD IS WHAT COUNTS. Prove the row's statement (the work); the ties are given (YtoiipedomgefaaaGreatDoorTie.lean); close each card by the builder's one call (the guide's Derived/Test/ToyasCard.lean, 'card_holds'). Laid BY PROGRAM, IN A SANDBOX (cutbox-door.mjs). By AI agents, Wed Nov 11 2026. No macro, syntax, notation, axiom, sorry.
-/
import Derived.Test.YtoiipedomgefaaaGreatDoorRows
import GoSem.ClaimSeven
namespace Go.Proofs.YtoiipedomgefaaaGreatDoor
namespace Rows

/-- THE TIED CARD OF 'laws.FnMeets'. -/
def fnMeetsCard : Claim7 := { stood := { row := fnMeetsRow, standIns := [], harness := (true, "a37741421691f1fdc5dee91952225b5bd1d52b5c6c1a943e84a83c0d4cedf253"), looks := true }, kinds := [], alts := [], laidByText := true, laidKinds := [.sentinel], laidTests := true, laidLooks := .later }
def FnMeetsCardSaid : Prop := Claim7.holds Tryz.pinned (.plain (OpenSpec.ofChange fnMeetsSpec)) fnMeetsCard

/-- THE TIED CARD OF 'laws.FnExactUnionUpTo'. -/
def fnExactUnionUpToCard : Claim7 := { stood := { row := fnExactUnionUpToRow, standIns := [], harness := (true, "a37741421691f1fdc5dee91952225b5bd1d52b5c6c1a943e84a83c0d4cedf253"), looks := true }, kinds := [], alts := [], laidByText := true, laidKinds := [.sentinel], laidTests := true, laidLooks := .later }
def FnExactUnionUpToCardSaid : Prop := Claim7.holds Tryz.pinned (.plain (OpenSpec.ofChange fnExactUnionUpToSpec)) fnExactUnionUpToCard

/-- THE SECOND FORM's CARD OF 'laws.FnMeets'. -/
def fnMeetsUptoCard : Claim7 := { stood := { row := fnMeetsUptoRow, standIns := [], harness := (true, "a37741421691f1fdc5dee91952225b5bd1d52b5c6c1a943e84a83c0d4cedf253"), looks := true }, kinds := [], alts := [], laidByText := true, laidKinds := [.sentinel], laidTests := true, laidLooks := .later }
def FnMeetsUptoCardSaid : Prop := Claim7.holds Tryz.pinned (.plain (OpenSpec.upto fnMeetsSpec)) fnMeetsUptoCard

/-- THE SECOND FORM's CARD OF 'laws.FnExactUnionUpTo'. -/
def fnExactUnionUpToUptoCard : Claim7 := { stood := { row := fnExactUnionUpToUptoRow, standIns := [], harness := (true, "a37741421691f1fdc5dee91952225b5bd1d52b5c6c1a943e84a83c0d4cedf253"), looks := true }, kinds := [], alts := [], laidByText := true, laidKinds := [.sentinel], laidTests := true, laidLooks := .later }
def FnExactUnionUpToUptoCardSaid : Prop := Claim7.holds Tryz.pinned (.plain (OpenSpec.upto fnExactUnionUpToSpec)) fnExactUnionUpToUptoCard
end Rows
end Go.Proofs.YtoiipedomgefaaaGreatDoor
