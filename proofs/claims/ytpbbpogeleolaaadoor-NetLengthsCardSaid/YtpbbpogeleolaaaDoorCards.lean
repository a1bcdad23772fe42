/-
  DERIVED. GIVEN WITH THE SEED: THE CARDS: each row of YtpbbpogeleolaaaDoorRows.lean that lists a variable, with what it lists TIED to the program's text (the seventh form; the later family's looks); each row that meets fmt, with fmt's text TOLD by the authors' own Lean function (tested against real Go, not proved from fmt's source: count such statements apart). THE CARD IS WHAT COUNTS. Prove the row's statement (the work); the ties are given (YtpbbpogeleolaaaDoorTie.lean); close each card by the builder's one call (the guide's Derived/Test/ToyasCard.lean, 'card_holds'). Laid BY PROGRAM, IN A SANDBOX (cutbox-door.mjs). By AI agents, Wed Nov 11 2026. No macro, syntax, notation, axiom, sorry.
-/
import Derived.Test.YtpbbpogeleolaaaDoorRows
import GoSem.ClaimSeven
namespace Go.Proofs.YtpbbpogeleolaaaDoor
namespace Rows

/-- THE TIED CARD OF 'mizmazelaw02.NetLengths'. -/
def netLengthsCard : Claim7 := { stood := { row := netLengthsRow, standIns := [], harness := (true, "a13a09b2ec54330a6d94fa401d16397760a93beedfb0af3118bdd410fef3afb3"), looks := false }, kinds := [], alts := [], laidByText := true, laidKinds := [.data], laidTests := true, laidLooks := .later }
def NetLengthsCardSaid : Prop := Claim7.holds Tryd.pinned (.plain (OpenSpec.ofChange netLengthsSpec)) netLengthsCard

/-- THE SECOND FORM's CARD OF 'mizmazelaw02.NetLengths'. -/
def netLengthsUptoCard : Claim7 := { stood := { row := netLengthsUptoRow, standIns := [], harness := (true, "a13a09b2ec54330a6d94fa401d16397760a93beedfb0af3118bdd410fef3afb3"), looks := false }, kinds := [], alts := [], laidByText := true, laidKinds := [.data], laidTests := true, laidLooks := .later }
def NetLengthsUptoCardSaid : Prop := Claim7.holds Tryd.pinned (.plain (OpenSpec.upto netLengthsSpec)) netLengthsUptoCard
end Rows
end Go.Proofs.YtpbbpogeleolaaaDoor
