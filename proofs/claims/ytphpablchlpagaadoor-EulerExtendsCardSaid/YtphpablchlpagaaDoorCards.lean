/-
  DERIVED. GIVEN WITH THE SEED: THE CARDS: each row of YtphpablchlpagaaDoorRows.lean that lists a variable, with what it lists TIED to the program's text (the seventh form; the later family's looks); each row that meets fmt, with fmt's text TOLD by the authors' own Lean function (tested against real Go, not proved from fmt's source: count such statements apart). THE CARD IS WHAT COUNTS. Prove the row's statement (the work); the ties are given (YtphpablchlpagaaDoorTie.lean); close each card by the builder's one call (the guide's Derived/Test/ToyasCard.lean, 'card_holds'). Laid BY PROGRAM, IN A SANDBOX (cutbox-door.mjs). By AI agents, Wed Nov 11 2026. No macro, syntax, notation, axiom, sorry.
-/
import Derived.Test.YtphpablchlpagaaDoorRows
import GoSem.ClaimSeven
namespace Go.Proofs.YtphpablchlpagaaDoor
namespace Rows

/-- THE TIED CARD OF 'mizmazelaw06.EulerKinds'. -/
def eulerKindsCard : Claim7 := { stood := { row := eulerKindsRow, standIns := [], harness := (true, "aa442de779c8db860a5e08e5cbc21c49cba0e830b5ced87a64198ba863485f7b"), looks := false }, kinds := [], alts := [], laidByText := true, laidKinds := [.data], laidTests := true, laidLooks := .later }
def EulerKindsCardSaid : Prop := Claim7.holds Tryd.pinned (.plain (OpenSpec.ofChange eulerKindsSpec)) eulerKindsCard

/-- THE TIED CARD OF 'mizmazelaw06.EulerExtends'. -/
def eulerExtendsCard : Claim7 := { stood := { row := eulerExtendsRow, standIns := [], harness := (true, "aa442de779c8db860a5e08e5cbc21c49cba0e830b5ced87a64198ba863485f7b"), looks := false }, kinds := [], alts := [], laidByText := true, laidKinds := [.data], laidTests := true, laidLooks := .later }
def EulerExtendsCardSaid : Prop := Claim7.holds Tryd.pinned (.plain (OpenSpec.ofChange eulerExtendsSpec)) eulerExtendsCard

/-- THE TIED CARD OF 'mizmazelaw06.EulerKari'. -/
def eulerKariCard : Claim7 := { stood := { row := eulerKariRow, standIns := [], harness := (true, "aa442de779c8db860a5e08e5cbc21c49cba0e830b5ced87a64198ba863485f7b"), looks := false }, kinds := [], alts := [], laidByText := true, laidKinds := [.data], laidTests := true, laidLooks := .later }
def EulerKariCardSaid : Prop := Claim7.holds Tryd.pinned (.plain (OpenSpec.ofChange eulerKariSpec)) eulerKariCard

/-- THE TIED CARD OF 'mizmazelaw06.EulerBounds'. -/
def eulerBoundsCard : Claim7 := { stood := { row := eulerBoundsRow, standIns := [], harness := (true, "aa442de779c8db860a5e08e5cbc21c49cba0e830b5ced87a64198ba863485f7b"), looks := false }, kinds := [], alts := [], laidByText := true, laidKinds := [.data], laidTests := true, laidLooks := .later }
def EulerBoundsCardSaid : Prop := Claim7.holds Tryd.pinned (.plain (OpenSpec.ofChange eulerBoundsSpec)) eulerBoundsCard

/-- THE TIED CARD OF 'mizmazelaw06.EulerMeans'. -/
def eulerMeansCard : Claim7 := { stood := { row := eulerMeansRow, standIns := [], harness := (true, "aa442de779c8db860a5e08e5cbc21c49cba0e830b5ced87a64198ba863485f7b"), looks := false }, kinds := [], alts := [], laidByText := true, laidKinds := [.data], laidTests := true, laidLooks := .later }
def EulerMeansCardSaid : Prop := Claim7.holds Tryd.pinned (.plain (OpenSpec.ofChange eulerMeansSpec)) eulerMeansCard

/-- THE TIED CARD OF 'mizmazetop.TopKari'. -/
def topKariCard : Claim7 := { stood := { row := topKariRow, standIns := [], harness := (true, "aa442de779c8db860a5e08e5cbc21c49cba0e830b5ced87a64198ba863485f7b"), looks := false }, kinds := [], alts := [], laidByText := true, laidKinds := [.data], laidTests := true, laidLooks := .later }
def TopKariCardSaid : Prop := Claim7.holds Tryd.pinned (.plain (OpenSpec.ofChange topKariSpec)) topKariCard

/-- THE SECOND FORM's CARD OF 'mizmazelaw06.EulerKinds'. -/
def eulerKindsUptoCard : Claim7 := { stood := { row := eulerKindsUptoRow, standIns := [], harness := (true, "aa442de779c8db860a5e08e5cbc21c49cba0e830b5ced87a64198ba863485f7b"), looks := false }, kinds := [], alts := [], laidByText := true, laidKinds := [.data], laidTests := true, laidLooks := .later }
def EulerKindsUptoCardSaid : Prop := Claim7.holds Tryd.pinned (.plain (OpenSpec.upto eulerKindsSpec)) eulerKindsUptoCard

/-- THE SECOND FORM's CARD OF 'mizmazelaw06.EulerExtends'. -/
def eulerExtendsUptoCard : Claim7 := { stood := { row := eulerExtendsUptoRow, standIns := [], harness := (true, "aa442de779c8db860a5e08e5cbc21c49cba0e830b5ced87a64198ba863485f7b"), looks := false }, kinds := [], alts := [], laidByText := true, laidKinds := [.data], laidTests := true, laidLooks := .later }
def EulerExtendsUptoCardSaid : Prop := Claim7.holds Tryd.pinned (.plain (OpenSpec.upto eulerExtendsSpec)) eulerExtendsUptoCard

/-- THE SECOND FORM's CARD OF 'mizmazelaw06.EulerKari'. -/
def eulerKariUptoCard : Claim7 := { stood := { row := eulerKariUptoRow, standIns := [], harness := (true, "aa442de779c8db860a5e08e5cbc21c49cba0e830b5ced87a64198ba863485f7b"), looks := false }, kinds := [], alts := [], laidByText := true, laidKinds := [.data], laidTests := true, laidLooks := .later }
def EulerKariUptoCardSaid : Prop := Claim7.holds Tryd.pinned (.plain (OpenSpec.upto eulerKariSpec)) eulerKariUptoCard

/-- THE SECOND FORM's CARD OF 'mizmazelaw06.EulerBounds'. -/
def eulerBoundsUptoCard : Claim7 := { stood := { row := eulerBoundsUptoRow, standIns := [], harness := (true, "aa442de779c8db860a5e08e5cbc21c49cba0e830b5ced87a64198ba863485f7b"), looks := false }, kinds := [], alts := [], laidByText := true, laidKinds := [.data], laidTests := true, laidLooks := .later }
def EulerBoundsUptoCardSaid : Prop := Claim7.holds Tryd.pinned (.plain (OpenSpec.upto eulerBoundsSpec)) eulerBoundsUptoCard

/-- THE SECOND FORM's CARD OF 'mizmazelaw06.EulerMeans'. -/
def eulerMeansUptoCard : Claim7 := { stood := { row := eulerMeansUptoRow, standIns := [], harness := (true, "aa442de779c8db860a5e08e5cbc21c49cba0e830b5ced87a64198ba863485f7b"), looks := false }, kinds := [], alts := [], laidByText := true, laidKinds := [.data], laidTests := true, laidLooks := .later }
def EulerMeansUptoCardSaid : Prop := Claim7.holds Tryd.pinned (.plain (OpenSpec.upto eulerMeansSpec)) eulerMeansUptoCard

/-- THE SECOND FORM's CARD OF 'mizmazetop.TopKari'. -/
def topKariUptoCard : Claim7 := { stood := { row := topKariUptoRow, standIns := [], harness := (true, "aa442de779c8db860a5e08e5cbc21c49cba0e830b5ced87a64198ba863485f7b"), looks := false }, kinds := [], alts := [], laidByText := true, laidKinds := [.data], laidTests := true, laidLooks := .later }
def TopKariUptoCardSaid : Prop := Claim7.holds Tryd.pinned (.plain (OpenSpec.upto topKariSpec)) topKariUptoCard
end Rows
end Go.Proofs.YtphpablchlpagaaDoor
