/-
  DERIVED. GIVEN WITH THE SEED: THE CARDS: each row of YtambkjnhfejfaacGreatDoorRows.lean that lists a variable, with what it lists TIED to the program's text (the seventh form; the later family's looks); each row that meets fmt, with fmt's text TOLD by the authors' own Lean function (tested against real Go, not proved from fmt's source: count such statements apart). THE CARD IS WHAT COUNTS. Prove the row's statement (the work); the ties are given (YtambkjnhfejfaacGreatDoorTie.lean); close each card by the builder's one call (the guide's Derived/Test/ToyasCard.lean, 'card_holds'). Laid BY PROGRAM, IN A SANDBOX (cutbox-door.mjs). By AI agents, Wed Nov 11 2026. No macro, syntax, notation, axiom, sorry.
-/
import Derived.Test.YtambkjnhfejfaacGreatDoorRows
import GoSem.ClaimSeven
namespace Go.Proofs.YtambkjnhfejfaacGreatDoor
namespace Rows

/-- THE TIED CARD OF 'rickyardtop.TopAsking'. -/
def topAskingCard : Claim7 := { stood := { row := topAskingRow, standIns := [], harness := (true, "2f35bd462833684bc51f20fbfeba6585fb923ead9dcbc62499e645d6801e455e"), looks := false }, kinds := [], alts := [], laidByText := true, laidKinds := [.data, .data, .data], laidTests := true, laidLooks := .later }
def TopAskingCardSaid : Prop := Claim7.holds Tryz.pinned (.plain (OpenSpec.ofChange topAskingSpec)) topAskingCard

/-- THE SECOND FORM's CARD OF 'rickyardtop.TopAsking'. -/
def topAskingUptoCard : Claim7 := { stood := { row := topAskingUptoRow, standIns := [], harness := (true, "2f35bd462833684bc51f20fbfeba6585fb923ead9dcbc62499e645d6801e455e"), looks := false }, kinds := [], alts := [], laidByText := true, laidKinds := [.data, .data, .data], laidTests := true, laidLooks := .later }
def TopAskingUptoCardSaid : Prop := Claim7.holds Tryz.pinned (.plain (OpenSpec.upto topAskingSpec)) topAskingUptoCard
end Rows
end Go.Proofs.YtambkjnhfejfaacGreatDoor
