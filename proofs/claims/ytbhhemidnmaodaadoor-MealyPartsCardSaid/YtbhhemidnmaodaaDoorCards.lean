/-
  DERIVED. GIVEN WITH THE SEED: THE CARDS: each row of YtbhhemidnmaodaaDoorRows.lean that lists a variable, with what it lists TIED to the program's text (the seventh form; the later family's looks); each row that meets fmt, with fmt's text TOLD by the authors' own Lean function (tested against real Go, not proved from fmt's source: count such statements apart). THE CARD IS WHAT COUNTS. Prove the row's statement (the work); the ties are given (YtbhhemidnmaodaaDoorTie.lean); close each card by the builder's one call (the guide's Derived/Test/ToyasCard.lean, 'card_holds'). Laid BY PROGRAM, IN A SANDBOX (cutbox-door.mjs). By AI agents, Wed Nov 11 2026. No macro, syntax, notation, axiom, sorry.
-/
import Derived.Test.YtbhhemidnmaodaaDoorRows
import GoSem.ClaimSeven
namespace Go.Proofs.YtbhhemidnmaodaaDoor
namespace Rows

/-- THE TIED CARD OF 'mizmazelaw07.MealyClasses'. -/
def mealyClassesCard : Claim7 := { stood := { row := mealyClassesRow, standIns := [], harness := (true, "0cebdfab4c9380c6cf17c39d9f5bf626f4f2a9f0ea40c44d6a57493703ce737d"), looks := true }, kinds := [], alts := [], laidByText := true, laidKinds := [.data, .data, .data, .data, .sentinel, .sentinel, .pinned], laidTests := true, laidLooks := .later }
def MealyClassesCardSaid : Prop := Claim7.holds Tryd.pinned (.plain (OpenSpec.ofChange mealyClassesSpec)) mealyClassesCard

/-- THE TIED CARD OF 'mizmazelaw07.MealyApart'. -/
def mealyApartCard : Claim7 := { stood := { row := mealyApartRow, standIns := [], harness := (true, "0cebdfab4c9380c6cf17c39d9f5bf626f4f2a9f0ea40c44d6a57493703ce737d"), looks := true }, kinds := [], alts := [], laidByText := true, laidKinds := [.data, .data, .data, .data, .sentinel, .sentinel, .pinned], laidTests := true, laidLooks := .later }
def MealyApartCardSaid : Prop := Claim7.holds Tryd.pinned (.plain (OpenSpec.ofChange mealyApartSpec)) mealyApartCard

/-- THE TIED CARD OF 'mizmazelaw07.MealyEqual'. -/
def mealyEqualCard : Claim7 := { stood := { row := mealyEqualRow, standIns := [], harness := (true, "0cebdfab4c9380c6cf17c39d9f5bf626f4f2a9f0ea40c44d6a57493703ce737d"), looks := true }, kinds := [], alts := [], laidByText := true, laidKinds := [.data, .data, .data, .data, .sentinel, .sentinel, .pinned], laidTests := true, laidLooks := .later }
def MealyEqualCardSaid : Prop := Claim7.holds Tryd.pinned (.plain (OpenSpec.ofChange mealyEqualSpec)) mealyEqualCard

/-- THE TIED CARD OF 'mizmazelaw07.MealyTexts'. -/
def mealyTextsCard : Claim7 := { stood := { row := mealyTextsRow, standIns := [], harness := (true, "0cebdfab4c9380c6cf17c39d9f5bf626f4f2a9f0ea40c44d6a57493703ce737d"), looks := true }, kinds := [], alts := [], laidByText := true, laidKinds := [.data, .data, .data, .data, .sentinel, .sentinel, .pinned], laidTests := true, laidLooks := .later }
def MealyTextsCardSaid : Prop := Claim7.holds Tryd.pinned (.plain (OpenSpec.ofChange mealyTextsSpec)) mealyTextsCard

/-- THE TIED CARD OF 'mizmazelaw07.MealyParses'. -/
def mealyParsesCard : Claim7 := { stood := { row := mealyParsesRow, standIns := [], harness := (true, "0cebdfab4c9380c6cf17c39d9f5bf626f4f2a9f0ea40c44d6a57493703ce737d"), looks := true }, kinds := [], alts := [], laidByText := true, laidKinds := [.data, .data, .data, .data, .sentinel, .sentinel, .pinned], laidTests := true, laidLooks := .later }
def MealyParsesCardSaid : Prop := Claim7.holds Tryd.pinned (.plain (OpenSpec.ofChange mealyParsesSpec)) mealyParsesCard

/-- THE TIED CARD OF 'mizmazelaw07.MealyParts'. -/
def mealyPartsCard : Claim7 := { stood := { row := mealyPartsRow, standIns := [], harness := (true, "0cebdfab4c9380c6cf17c39d9f5bf626f4f2a9f0ea40c44d6a57493703ce737d"), looks := true }, kinds := [], alts := [], laidByText := true, laidKinds := [.data, .data, .data, .data, .sentinel, .sentinel, .pinned], laidTests := true, laidLooks := .later }
def MealyPartsCardSaid : Prop := Claim7.holds Tryd.pinned (.plain (OpenSpec.ofChange mealyPartsSpec)) mealyPartsCard

/-- THE TIED CARD OF 'mizmazelaw07.MealyMinimal'. -/
def mealyMinimalCard : Claim7 := { stood := { row := mealyMinimalRow, standIns := [], harness := (true, "0cebdfab4c9380c6cf17c39d9f5bf626f4f2a9f0ea40c44d6a57493703ce737d"), looks := true }, kinds := [], alts := [], laidByText := true, laidKinds := [.data, .data, .data, .data, .sentinel, .sentinel, .pinned], laidTests := true, laidLooks := .later }
def MealyMinimalCardSaid : Prop := Claim7.holds Tryd.pinned (.plain (OpenSpec.ofChange mealyMinimalSpec)) mealyMinimalCard

/-- THE TIED CARD OF 'mizmazelaw07.MealyShort'. -/
def mealyShortCard : Claim7 := { stood := { row := mealyShortRow, standIns := [], harness := (true, "0cebdfab4c9380c6cf17c39d9f5bf626f4f2a9f0ea40c44d6a57493703ce737d"), looks := true }, kinds := [], alts := [], laidByText := true, laidKinds := [.data, .data, .data, .data, .sentinel, .sentinel, .pinned], laidTests := true, laidLooks := .later }
def MealyShortCardSaid : Prop := Claim7.holds Tryd.pinned (.plain (OpenSpec.ofChange mealyShortSpec)) mealyShortCard

/-- THE SECOND FORM's CARD OF 'mizmazelaw07.MealyClasses'. -/
def mealyClassesUptoCard : Claim7 := { stood := { row := mealyClassesUptoRow, standIns := [], harness := (true, "0cebdfab4c9380c6cf17c39d9f5bf626f4f2a9f0ea40c44d6a57493703ce737d"), looks := true }, kinds := [], alts := [], laidByText := true, laidKinds := [.data, .data, .data, .data, .sentinel, .sentinel, .pinned], laidTests := true, laidLooks := .later }
def MealyClassesUptoCardSaid : Prop := Claim7.holds Tryd.pinned (.plain (OpenSpec.upto mealyClassesSpec)) mealyClassesUptoCard

/-- THE SECOND FORM's CARD OF 'mizmazelaw07.MealyApart'. -/
def mealyApartUptoCard : Claim7 := { stood := { row := mealyApartUptoRow, standIns := [], harness := (true, "0cebdfab4c9380c6cf17c39d9f5bf626f4f2a9f0ea40c44d6a57493703ce737d"), looks := true }, kinds := [], alts := [], laidByText := true, laidKinds := [.data, .data, .data, .data, .sentinel, .sentinel, .pinned], laidTests := true, laidLooks := .later }
def MealyApartUptoCardSaid : Prop := Claim7.holds Tryd.pinned (.plain (OpenSpec.upto mealyApartSpec)) mealyApartUptoCard

/-- THE SECOND FORM's CARD OF 'mizmazelaw07.MealyEqual'. -/
def mealyEqualUptoCard : Claim7 := { stood := { row := mealyEqualUptoRow, standIns := [], harness := (true, "0cebdfab4c9380c6cf17c39d9f5bf626f4f2a9f0ea40c44d6a57493703ce737d"), looks := true }, kinds := [], alts := [], laidByText := true, laidKinds := [.data, .data, .data, .data, .sentinel, .sentinel, .pinned], laidTests := true, laidLooks := .later }
def MealyEqualUptoCardSaid : Prop := Claim7.holds Tryd.pinned (.plain (OpenSpec.upto mealyEqualSpec)) mealyEqualUptoCard

/-- THE SECOND FORM's CARD OF 'mizmazelaw07.MealyTexts'. -/
def mealyTextsUptoCard : Claim7 := { stood := { row := mealyTextsUptoRow, standIns := [], harness := (true, "0cebdfab4c9380c6cf17c39d9f5bf626f4f2a9f0ea40c44d6a57493703ce737d"), looks := true }, kinds := [], alts := [], laidByText := true, laidKinds := [.data, .data, .data, .data, .sentinel, .sentinel, .pinned], laidTests := true, laidLooks := .later }
def MealyTextsUptoCardSaid : Prop := Claim7.holds Tryd.pinned (.plain (OpenSpec.upto mealyTextsSpec)) mealyTextsUptoCard

/-- THE SECOND FORM's CARD OF 'mizmazelaw07.MealyParses'. -/
def mealyParsesUptoCard : Claim7 := { stood := { row := mealyParsesUptoRow, standIns := [], harness := (true, "0cebdfab4c9380c6cf17c39d9f5bf626f4f2a9f0ea40c44d6a57493703ce737d"), looks := true }, kinds := [], alts := [], laidByText := true, laidKinds := [.data, .data, .data, .data, .sentinel, .sentinel, .pinned], laidTests := true, laidLooks := .later }
def MealyParsesUptoCardSaid : Prop := Claim7.holds Tryd.pinned (.plain (OpenSpec.upto mealyParsesSpec)) mealyParsesUptoCard

/-- THE SECOND FORM's CARD OF 'mizmazelaw07.MealyParts'. -/
def mealyPartsUptoCard : Claim7 := { stood := { row := mealyPartsUptoRow, standIns := [], harness := (true, "0cebdfab4c9380c6cf17c39d9f5bf626f4f2a9f0ea40c44d6a57493703ce737d"), looks := true }, kinds := [], alts := [], laidByText := true, laidKinds := [.data, .data, .data, .data, .sentinel, .sentinel, .pinned], laidTests := true, laidLooks := .later }
def MealyPartsUptoCardSaid : Prop := Claim7.holds Tryd.pinned (.plain (OpenSpec.upto mealyPartsSpec)) mealyPartsUptoCard

/-- THE SECOND FORM's CARD OF 'mizmazelaw07.MealyMinimal'. -/
def mealyMinimalUptoCard : Claim7 := { stood := { row := mealyMinimalUptoRow, standIns := [], harness := (true, "0cebdfab4c9380c6cf17c39d9f5bf626f4f2a9f0ea40c44d6a57493703ce737d"), looks := true }, kinds := [], alts := [], laidByText := true, laidKinds := [.data, .data, .data, .data, .sentinel, .sentinel, .pinned], laidTests := true, laidLooks := .later }
def MealyMinimalUptoCardSaid : Prop := Claim7.holds Tryd.pinned (.plain (OpenSpec.upto mealyMinimalSpec)) mealyMinimalUptoCard

/-- THE SECOND FORM's CARD OF 'mizmazelaw07.MealyShort'. -/
def mealyShortUptoCard : Claim7 := { stood := { row := mealyShortUptoRow, standIns := [], harness := (true, "0cebdfab4c9380c6cf17c39d9f5bf626f4f2a9f0ea40c44d6a57493703ce737d"), looks := true }, kinds := [], alts := [], laidByText := true, laidKinds := [.data, .data, .data, .data, .sentinel, .sentinel, .pinned], laidTests := true, laidLooks := .later }
def MealyShortUptoCardSaid : Prop := Claim7.holds Tryd.pinned (.plain (OpenSpec.upto mealyShortSpec)) mealyShortUptoCard
end Rows
end Go.Proofs.YtbhhemidnmaodaaDoor
