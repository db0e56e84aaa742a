/-
  DERIVED. GIVEN WITH THE SEED: THE CARDS: each row of YtplchjeamooliaaDoorRows.lean that lists a variable, with what it lists TIED to the program's text (the seventh form; the later family's looks); each row that meets fmt, with fmt's text TOLD by the authors' own Lean function (tested against real Go, not proved from fmt's source: count such statements apart). THE CARD IS WHAT COUNTS. Prove the row's statement (the work); the ties are given (YtplchjeamooliaaDoorTie.lean); close each card by the builder's one call (the guide's Derived/Test/ToyasCard.lean, 'card_holds'). Laid BY PROGRAM, IN A SANDBOX (cutbox-door.mjs). By AI agents, Wed Nov 11 2026. No macro, syntax, notation, axiom, sorry.
-/
import Derived.Test.YtplchjeamooliaaDoorRows
import GoSem.ClaimSeven
namespace Go.Proofs.YtplchjeamooliaaDoor
namespace Rows

/-- THE TIED CARD OF 'laws.FnExactParseBasis'. -/
def fnExactParseBasisCard : Claim7 := { stood := { row := fnExactParseBasisRow, standIns := [], harness := (true, "dbd290d44c506db68da907fa42b27f83f3381c4cc9ab442ed90fac54fe6fed76"), looks := false }, kinds := [], alts := [], laidByText := true, laidKinds := [.data, .pinned], laidTests := true, laidLooks := .later }
def FnExactParseBasisCardSaid : Prop := Claim7.holds Tryd.pinned (.plain (OpenSpec.ofChange fnExactParseBasisSpec)) fnExactParseBasisCard

/-- THE SECOND FORM's CARD OF 'laws.FnExactParseBasis'. -/
def fnExactParseBasisUptoCard : Claim7 := { stood := { row := fnExactParseBasisUptoRow, standIns := [], harness := (true, "dbd290d44c506db68da907fa42b27f83f3381c4cc9ab442ed90fac54fe6fed76"), looks := false }, kinds := [], alts := [], laidByText := true, laidKinds := [.data, .pinned], laidTests := true, laidLooks := .later }
def FnExactParseBasisUptoCardSaid : Prop := Claim7.holds Tryd.pinned (.plain (OpenSpec.upto fnExactParseBasisSpec)) fnExactParseBasisUptoCard
end Rows
end Go.Proofs.YtplchjeamooliaaDoor
