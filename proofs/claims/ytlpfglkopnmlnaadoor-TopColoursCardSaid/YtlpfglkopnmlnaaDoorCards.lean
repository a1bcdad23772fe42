/-
  DERIVED. GIVEN WITH THE SEED: THE CARDS: each row of YtlpfglkopnmlnaaDoorRows.lean that lists a variable, with what it lists TIED to the program's text (the seventh form; the later family's looks); each row that meets fmt, with fmt's text TOLD by the authors' own Lean function (tested against real Go, not proved from fmt's source: count such statements apart). THE CARD IS WHAT COUNTS. Prove the row's statement (the work); the ties are given (YtlpfglkopnmlnaaDoorTie.lean); close each card by the builder's one call (the guide's Derived/Test/ToyasCard.lean, 'card_holds'). Laid BY PROGRAM, IN A SANDBOX (cutbox-door.mjs). By AI agents, Wed Nov 11 2026. No macro, syntax, notation, axiom, sorry.
-/
import Derived.Test.YtlpfglkopnmlnaaDoorRows
import GoSem.ClaimSeven
namespace Go.Proofs.YtlpfglkopnmlnaaDoor
namespace Rows

/-- THE TIED CARD OF 'mizmazelaw05.ColorMakes'. -/
def colorMakesCard : Claim7 := { stood := { row := colorMakesRow, standIns := [], harness := (true, "0046f6c82f15ac14e819a2181f9addc254c7c2ee0eab8aff32c80332649541b1"), looks := false }, kinds := [], alts := [], laidByText := true, laidKinds := [.data], laidTests := true, laidLooks := .later }
def ColorMakesCardSaid : Prop := Claim7.holds Tryd.pinned (.plain (OpenSpec.ofChange colorMakesSpec)) colorMakesCard

/-- THE TIED CARD OF 'mizmazelaw05.ColorCounts'. -/
def colorCountsCard : Claim7 := { stood := { row := colorCountsRow, standIns := [], harness := (true, "0046f6c82f15ac14e819a2181f9addc254c7c2ee0eab8aff32c80332649541b1"), looks := false }, kinds := [], alts := [], laidByText := true, laidKinds := [.data], laidTests := true, laidLooks := .later }
def ColorCountsCardSaid : Prop := Claim7.holds Tryd.pinned (.plain (OpenSpec.ofChange colorCountsSpec)) colorCountsCard

/-- THE TIED CARD OF 'mizmazelaw05.ColorRoads'. -/
def colorRoadsCard : Claim7 := { stood := { row := colorRoadsRow, standIns := [], harness := (true, "0046f6c82f15ac14e819a2181f9addc254c7c2ee0eab8aff32c80332649541b1"), looks := false }, kinds := [], alts := [], laidByText := true, laidKinds := [.data], laidTests := true, laidLooks := .later }
def ColorRoadsCardSaid : Prop := Claim7.holds Tryd.pinned (.plain (OpenSpec.ofChange colorRoadsSpec)) colorRoadsCard

/-- THE TIED CARD OF 'mizmazelaw05.ColorPeriods'. -/
def colorPeriodsCard : Claim7 := { stood := { row := colorPeriodsRow, standIns := [], harness := (true, "0046f6c82f15ac14e819a2181f9addc254c7c2ee0eab8aff32c80332649541b1"), looks := false }, kinds := [], alts := [], laidByText := true, laidKinds := [.data], laidTests := true, laidLooks := .later }
def ColorPeriodsCardSaid : Prop := Claim7.holds Tryd.pinned (.plain (OpenSpec.ofChange colorPeriodsSpec)) colorPeriodsCard

/-- THE TIED CARD OF 'mizmazelaw05.ColorAlike'. -/
def colorAlikeCard : Claim7 := { stood := { row := colorAlikeRow, standIns := [], harness := (true, "0046f6c82f15ac14e819a2181f9addc254c7c2ee0eab8aff32c80332649541b1"), looks := false }, kinds := [], alts := [], laidByText := true, laidKinds := [.data], laidTests := true, laidLooks := .later }
def ColorAlikeCardSaid : Prop := Claim7.holds Tryd.pinned (.plain (OpenSpec.ofChange colorAlikeSpec)) colorAlikeCard

/-- THE TIED CARD OF 'mizmazetop.TopRoad'. -/
def topRoadCard : Claim7 := { stood := { row := topRoadRow, standIns := [], harness := (true, "0046f6c82f15ac14e819a2181f9addc254c7c2ee0eab8aff32c80332649541b1"), looks := false }, kinds := [], alts := [], laidByText := true, laidKinds := [.data], laidTests := true, laidLooks := .later }
def TopRoadCardSaid : Prop := Claim7.holds Tryd.pinned (.plain (OpenSpec.ofChange topRoadSpec)) topRoadCard

/-- THE TIED CARD OF 'mizmazetop.TopColours'. -/
def topColoursCard : Claim7 := { stood := { row := topColoursRow, standIns := [], harness := (true, "0046f6c82f15ac14e819a2181f9addc254c7c2ee0eab8aff32c80332649541b1"), looks := false }, kinds := [], alts := [], laidByText := true, laidKinds := [.data], laidTests := true, laidLooks := .later }
def TopColoursCardSaid : Prop := Claim7.holds Tryd.pinned (.plain (OpenSpec.ofChange topColoursSpec)) topColoursCard

/-- THE SECOND FORM's CARD OF 'mizmazelaw05.ColorMakes'. -/
def colorMakesUptoCard : Claim7 := { stood := { row := colorMakesUptoRow, standIns := [], harness := (true, "0046f6c82f15ac14e819a2181f9addc254c7c2ee0eab8aff32c80332649541b1"), looks := false }, kinds := [], alts := [], laidByText := true, laidKinds := [.data], laidTests := true, laidLooks := .later }
def ColorMakesUptoCardSaid : Prop := Claim7.holds Tryd.pinned (.plain (OpenSpec.upto colorMakesSpec)) colorMakesUptoCard

/-- THE SECOND FORM's CARD OF 'mizmazelaw05.ColorCounts'. -/
def colorCountsUptoCard : Claim7 := { stood := { row := colorCountsUptoRow, standIns := [], harness := (true, "0046f6c82f15ac14e819a2181f9addc254c7c2ee0eab8aff32c80332649541b1"), looks := false }, kinds := [], alts := [], laidByText := true, laidKinds := [.data], laidTests := true, laidLooks := .later }
def ColorCountsUptoCardSaid : Prop := Claim7.holds Tryd.pinned (.plain (OpenSpec.upto colorCountsSpec)) colorCountsUptoCard

/-- THE SECOND FORM's CARD OF 'mizmazelaw05.ColorRoads'. -/
def colorRoadsUptoCard : Claim7 := { stood := { row := colorRoadsUptoRow, standIns := [], harness := (true, "0046f6c82f15ac14e819a2181f9addc254c7c2ee0eab8aff32c80332649541b1"), looks := false }, kinds := [], alts := [], laidByText := true, laidKinds := [.data], laidTests := true, laidLooks := .later }
def ColorRoadsUptoCardSaid : Prop := Claim7.holds Tryd.pinned (.plain (OpenSpec.upto colorRoadsSpec)) colorRoadsUptoCard

/-- THE SECOND FORM's CARD OF 'mizmazelaw05.ColorPeriods'. -/
def colorPeriodsUptoCard : Claim7 := { stood := { row := colorPeriodsUptoRow, standIns := [], harness := (true, "0046f6c82f15ac14e819a2181f9addc254c7c2ee0eab8aff32c80332649541b1"), looks := false }, kinds := [], alts := [], laidByText := true, laidKinds := [.data], laidTests := true, laidLooks := .later }
def ColorPeriodsUptoCardSaid : Prop := Claim7.holds Tryd.pinned (.plain (OpenSpec.upto colorPeriodsSpec)) colorPeriodsUptoCard

/-- THE SECOND FORM's CARD OF 'mizmazelaw05.ColorAlike'. -/
def colorAlikeUptoCard : Claim7 := { stood := { row := colorAlikeUptoRow, standIns := [], harness := (true, "0046f6c82f15ac14e819a2181f9addc254c7c2ee0eab8aff32c80332649541b1"), looks := false }, kinds := [], alts := [], laidByText := true, laidKinds := [.data], laidTests := true, laidLooks := .later }
def ColorAlikeUptoCardSaid : Prop := Claim7.holds Tryd.pinned (.plain (OpenSpec.upto colorAlikeSpec)) colorAlikeUptoCard

/-- THE SECOND FORM's CARD OF 'mizmazetop.TopRoad'. -/
def topRoadUptoCard : Claim7 := { stood := { row := topRoadUptoRow, standIns := [], harness := (true, "0046f6c82f15ac14e819a2181f9addc254c7c2ee0eab8aff32c80332649541b1"), looks := false }, kinds := [], alts := [], laidByText := true, laidKinds := [.data], laidTests := true, laidLooks := .later }
def TopRoadUptoCardSaid : Prop := Claim7.holds Tryd.pinned (.plain (OpenSpec.upto topRoadSpec)) topRoadUptoCard

/-- THE SECOND FORM's CARD OF 'mizmazetop.TopColours'. -/
def topColoursUptoCard : Claim7 := { stood := { row := topColoursUptoRow, standIns := [], harness := (true, "0046f6c82f15ac14e819a2181f9addc254c7c2ee0eab8aff32c80332649541b1"), looks := false }, kinds := [], alts := [], laidByText := true, laidKinds := [.data], laidTests := true, laidLooks := .later }
def TopColoursUptoCardSaid : Prop := Claim7.holds Tryd.pinned (.plain (OpenSpec.upto topColoursSpec)) topColoursUptoCard
end Rows
end Go.Proofs.YtlpfglkopnmlnaaDoor
