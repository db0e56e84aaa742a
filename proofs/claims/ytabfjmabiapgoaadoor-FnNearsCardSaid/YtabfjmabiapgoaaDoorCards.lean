/-
  DERIVED. GIVEN WITH THE SEED: THE CARDS: each row of YtabfjmabiapgoaaDoorRows.lean that lists a variable, with what it lists TIED to the program's text (the seventh form; the later family's looks); each row that meets fmt, with fmt's text TOLD by the authors' own Lean function (tested against real Go, not proved from fmt's source: count such statements apart). THE CARD IS WHAT COUNTS. Prove the row's statement (the work); the ties are given (YtabfjmabiapgoaaDoorTie.lean); close each card by the builder's one call (the guide's Derived/Test/ToyasCard.lean, 'card_holds'). Laid BY PROGRAM, IN A SANDBOX (cutbox-door.mjs). By AI agents, Wed Nov 11 2026. No macro, syntax, notation, axiom, sorry.
-/
import Derived.Test.YtabfjmabiapgoaaDoorRows
import GoSem.ClaimSeven
namespace Go.Proofs.YtabfjmabiapgoaaDoor
namespace Rows

/-- THE TIED CARD OF 'laws.FnNears'. -/
def fnNearsCard : Claim7 := { stood := { row := fnNearsRow, standIns := [], harness := (true, "d79bfe9bce126e0f5e99626192cb5a7f6bd6d22d202af404b43b021a904a1791"), looks := false }, kinds := [], alts := [], laidByText := true, laidKinds := [.data, .pinned], laidTests := true, laidLooks := .later }
def FnNearsCardSaid : Prop := Claim7.holds Tryd.pinned (.plain (OpenSpec.ofChange fnNearsSpec)) fnNearsCard

/-- THE TIED CARD OF 'laws.FnExactParseNear'. -/
def fnExactParseNearCard : Claim7 := { stood := { row := fnExactParseNearRow, standIns := [], harness := (true, "d79bfe9bce126e0f5e99626192cb5a7f6bd6d22d202af404b43b021a904a1791"), looks := false }, kinds := [], alts := [], laidByText := true, laidKinds := [.data, .pinned], laidTests := true, laidLooks := .later }
def FnExactParseNearCardSaid : Prop := Claim7.holds Tryd.pinned (.plain (OpenSpec.ofChange fnExactParseNearSpec)) fnExactParseNearCard

/-- THE SECOND FORM's CARD OF 'laws.FnNears'. -/
def fnNearsUptoCard : Claim7 := { stood := { row := fnNearsUptoRow, standIns := [], harness := (true, "d79bfe9bce126e0f5e99626192cb5a7f6bd6d22d202af404b43b021a904a1791"), looks := false }, kinds := [], alts := [], laidByText := true, laidKinds := [.data, .pinned], laidTests := true, laidLooks := .later }
def FnNearsUptoCardSaid : Prop := Claim7.holds Tryd.pinned (.plain (OpenSpec.upto fnNearsSpec)) fnNearsUptoCard

/-- THE SECOND FORM's CARD OF 'laws.FnExactParseNear'. -/
def fnExactParseNearUptoCard : Claim7 := { stood := { row := fnExactParseNearUptoRow, standIns := [], harness := (true, "d79bfe9bce126e0f5e99626192cb5a7f6bd6d22d202af404b43b021a904a1791"), looks := false }, kinds := [], alts := [], laidByText := true, laidKinds := [.data, .pinned], laidTests := true, laidLooks := .later }
def FnExactParseNearUptoCardSaid : Prop := Claim7.holds Tryd.pinned (.plain (OpenSpec.upto fnExactParseNearSpec)) fnExactParseNearUptoCard
end Rows
end Go.Proofs.YtabfjmabiapgoaaDoor
