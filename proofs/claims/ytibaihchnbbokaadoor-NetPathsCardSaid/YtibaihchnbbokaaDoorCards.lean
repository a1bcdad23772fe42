/-
  DERIVED. GIVEN WITH THE SEED: THE CARDS: each row of YtibaihchnbbokaaDoorRows.lean that lists a variable, with what it lists TIED to the program's text (the seventh form; the later family's looks); each row that meets fmt, with fmt's text TOLD by the authors' own Lean function (tested against real Go, not proved from fmt's source: count such statements apart). THE CARD IS WHAT COUNTS. Prove the row's statement (the work); the ties are given (YtibaihchnbbokaaDoorTie.lean); close each card by the builder's one call (the guide's Derived/Test/ToyasCard.lean, 'card_holds'). Laid BY PROGRAM, IN A SANDBOX (cutbox-door.mjs). By AI agents, Wed Nov 11 2026. No macro, syntax, notation, axiom, sorry.
-/
import Derived.Test.YtibaihchnbbokaaDoorRows
import GoSem.ClaimSeven
namespace Go.Proofs.YtibaihchnbbokaaDoor
namespace Rows

/-- THE TIED CARD OF 'mizmazelaw01.AutoRuns'. -/
def autoRunsCard : Claim7 := { stood := { row := autoRunsRow, standIns := [], harness := (true, "0fe951ac29adc288bb47bbf0551a262354a224d4a978adb317e03b35a69715f9"), looks := true }, kinds := [], alts := [], laidByText := true, laidKinds := [.data, .data, .data, .data, .sentinel, .sentinel, .pinned], laidTests := true, laidLooks := .later }
def AutoRunsCardSaid : Prop := Claim7.holds Tryd.pinned (.plain (OpenSpec.ofChange autoRunsSpec)) autoRunsCard

/-- THE TIED CARD OF 'mizmazelaw01.AutoSets'. -/
def autoSetsCard : Claim7 := { stood := { row := autoSetsRow, standIns := [], harness := (true, "0fe951ac29adc288bb47bbf0551a262354a224d4a978adb317e03b35a69715f9"), looks := true }, kinds := [], alts := [], laidByText := true, laidKinds := [.data, .data, .data, .data, .sentinel, .sentinel, .pinned], laidTests := true, laidLooks := .later }
def AutoSetsCardSaid : Prop := Claim7.holds Tryd.pinned (.plain (OpenSpec.ofChange autoSetsSpec)) autoSetsCard

/-- THE TIED CARD OF 'mizmazelaw01.AutoMakes'. -/
def autoMakesCard : Claim7 := { stood := { row := autoMakesRow, standIns := [], harness := (true, "0fe951ac29adc288bb47bbf0551a262354a224d4a978adb317e03b35a69715f9"), looks := true }, kinds := [], alts := [], laidByText := true, laidKinds := [.data, .data, .data, .data, .sentinel, .sentinel, .pinned], laidTests := true, laidLooks := .later }
def AutoMakesCardSaid : Prop := Claim7.holds Tryd.pinned (.plain (OpenSpec.ofChange autoMakesSpec)) autoMakesCard

/-- THE TIED CARD OF 'mizmazelaw01.AutoTexts'. -/
def autoTextsCard : Claim7 := { stood := { row := autoTextsRow, standIns := [], harness := (true, "0fe951ac29adc288bb47bbf0551a262354a224d4a978adb317e03b35a69715f9"), looks := true }, kinds := [], alts := [], laidByText := true, laidKinds := [.data, .data, .data, .data, .sentinel, .sentinel, .pinned], laidTests := true, laidLooks := .later }
def AutoTextsCardSaid : Prop := Claim7.holds Tryd.pinned (.plain (OpenSpec.ofChange autoTextsSpec)) autoTextsCard

/-- THE TIED CARD OF 'mizmazelaw01.AutoParts'. -/
def autoPartsCard : Claim7 := { stood := { row := autoPartsRow, standIns := [], harness := (true, "0fe951ac29adc288bb47bbf0551a262354a224d4a978adb317e03b35a69715f9"), looks := true }, kinds := [], alts := [], laidByText := true, laidKinds := [.data, .data, .data, .data, .sentinel, .sentinel, .pinned], laidTests := true, laidLooks := .later }
def AutoPartsCardSaid : Prop := Claim7.holds Tryd.pinned (.plain (OpenSpec.ofChange autoPartsSpec)) autoPartsCard

/-- THE TIED CARD OF 'mizmazelaw01.AutoUnions'. -/
def autoUnionsCard : Claim7 := { stood := { row := autoUnionsRow, standIns := [], harness := (true, "0fe951ac29adc288bb47bbf0551a262354a224d4a978adb317e03b35a69715f9"), looks := true }, kinds := [], alts := [], laidByText := true, laidKinds := [.data, .data, .data, .data, .sentinel, .sentinel, .pinned], laidTests := true, laidLooks := .later }
def AutoUnionsCardSaid : Prop := Claim7.holds Tryd.pinned (.plain (OpenSpec.ofChange autoUnionsSpec)) autoUnionsCard

/-- THE TIED CARD OF 'mizmazelaw01.AutoNames'. -/
def autoNamesCard : Claim7 := { stood := { row := autoNamesRow, standIns := [], harness := (true, "0fe951ac29adc288bb47bbf0551a262354a224d4a978adb317e03b35a69715f9"), looks := true }, kinds := [], alts := [], laidByText := true, laidKinds := [.data, .data, .data, .data, .sentinel, .sentinel, .pinned], laidTests := true, laidLooks := .later }
def AutoNamesCardSaid : Prop := Claim7.holds Tryd.pinned (.plain (OpenSpec.ofChange autoNamesSpec)) autoNamesCard

/-- THE TIED CARD OF 'mizmazelaw02.NetPaths'. -/
def netPathsCard : Claim7 := { stood := { row := netPathsRow, standIns := [], harness := (true, "0fe951ac29adc288bb47bbf0551a262354a224d4a978adb317e03b35a69715f9"), looks := true }, kinds := [], alts := [], laidByText := true, laidKinds := [.data], laidTests := true, laidLooks := .later }
def NetPathsCardSaid : Prop := Claim7.holds Tryd.pinned (.plain (OpenSpec.ofChange netPathsSpec)) netPathsCard

/-- THE TIED CARD OF 'mizmazelaw02.NetSinks'. -/
def netSinksCard : Claim7 := { stood := { row := netSinksRow, standIns := [], harness := (true, "0fe951ac29adc288bb47bbf0551a262354a224d4a978adb317e03b35a69715f9"), looks := true }, kinds := [], alts := [], laidByText := true, laidKinds := [.data], laidTests := true, laidLooks := .later }
def NetSinksCardSaid : Prop := Claim7.holds Tryd.pinned (.plain (OpenSpec.ofChange netSinksSpec)) netSinksCard

/-- THE TIED CARD OF 'mizmazelaw02.NetClasses'. -/
def netClassesCard : Claim7 := { stood := { row := netClassesRow, standIns := [], harness := (true, "0fe951ac29adc288bb47bbf0551a262354a224d4a978adb317e03b35a69715f9"), looks := true }, kinds := [], alts := [], laidByText := true, laidKinds := [.data], laidTests := true, laidLooks := .later }
def NetClassesCardSaid : Prop := Claim7.holds Tryd.pinned (.plain (OpenSpec.ofChange netClassesSpec)) netClassesCard

/-- THE TIED CARD OF 'mizmazelaw02.NetEnds'. -/
def netEndsCard : Claim7 := { stood := { row := netEndsRow, standIns := [], harness := (true, "0fe951ac29adc288bb47bbf0551a262354a224d4a978adb317e03b35a69715f9"), looks := true }, kinds := [], alts := [], laidByText := true, laidKinds := [.data], laidTests := true, laidLooks := .later }
def NetEndsCardSaid : Prop := Claim7.holds Tryd.pinned (.plain (OpenSpec.ofChange netEndsSpec)) netEndsCard

/-- THE TIED CARD OF 'mizmazelaw02.NetReset'. -/
def netResetCard : Claim7 := { stood := { row := netResetRow, standIns := [], harness := (true, "0fe951ac29adc288bb47bbf0551a262354a224d4a978adb317e03b35a69715f9"), looks := true }, kinds := [], alts := [], laidByText := true, laidKinds := [.data], laidTests := true, laidLooks := .later }
def NetResetCardSaid : Prop := Claim7.holds Tryd.pinned (.plain (OpenSpec.ofChange netResetSpec)) netResetCard

/-- THE SECOND FORM's CARD OF 'mizmazelaw01.AutoRuns'. -/
def autoRunsUptoCard : Claim7 := { stood := { row := autoRunsUptoRow, standIns := [], harness := (true, "0fe951ac29adc288bb47bbf0551a262354a224d4a978adb317e03b35a69715f9"), looks := true }, kinds := [], alts := [], laidByText := true, laidKinds := [.data, .data, .data, .data, .sentinel, .sentinel, .pinned], laidTests := true, laidLooks := .later }
def AutoRunsUptoCardSaid : Prop := Claim7.holds Tryd.pinned (.plain (OpenSpec.upto autoRunsSpec)) autoRunsUptoCard

/-- THE SECOND FORM's CARD OF 'mizmazelaw01.AutoSets'. -/
def autoSetsUptoCard : Claim7 := { stood := { row := autoSetsUptoRow, standIns := [], harness := (true, "0fe951ac29adc288bb47bbf0551a262354a224d4a978adb317e03b35a69715f9"), looks := true }, kinds := [], alts := [], laidByText := true, laidKinds := [.data, .data, .data, .data, .sentinel, .sentinel, .pinned], laidTests := true, laidLooks := .later }
def AutoSetsUptoCardSaid : Prop := Claim7.holds Tryd.pinned (.plain (OpenSpec.upto autoSetsSpec)) autoSetsUptoCard

/-- THE SECOND FORM's CARD OF 'mizmazelaw01.AutoMakes'. -/
def autoMakesUptoCard : Claim7 := { stood := { row := autoMakesUptoRow, standIns := [], harness := (true, "0fe951ac29adc288bb47bbf0551a262354a224d4a978adb317e03b35a69715f9"), looks := true }, kinds := [], alts := [], laidByText := true, laidKinds := [.data, .data, .data, .data, .sentinel, .sentinel, .pinned], laidTests := true, laidLooks := .later }
def AutoMakesUptoCardSaid : Prop := Claim7.holds Tryd.pinned (.plain (OpenSpec.upto autoMakesSpec)) autoMakesUptoCard

/-- THE SECOND FORM's CARD OF 'mizmazelaw01.AutoTexts'. -/
def autoTextsUptoCard : Claim7 := { stood := { row := autoTextsUptoRow, standIns := [], harness := (true, "0fe951ac29adc288bb47bbf0551a262354a224d4a978adb317e03b35a69715f9"), looks := true }, kinds := [], alts := [], laidByText := true, laidKinds := [.data, .data, .data, .data, .sentinel, .sentinel, .pinned], laidTests := true, laidLooks := .later }
def AutoTextsUptoCardSaid : Prop := Claim7.holds Tryd.pinned (.plain (OpenSpec.upto autoTextsSpec)) autoTextsUptoCard

/-- THE SECOND FORM's CARD OF 'mizmazelaw01.AutoParts'. -/
def autoPartsUptoCard : Claim7 := { stood := { row := autoPartsUptoRow, standIns := [], harness := (true, "0fe951ac29adc288bb47bbf0551a262354a224d4a978adb317e03b35a69715f9"), looks := true }, kinds := [], alts := [], laidByText := true, laidKinds := [.data, .data, .data, .data, .sentinel, .sentinel, .pinned], laidTests := true, laidLooks := .later }
def AutoPartsUptoCardSaid : Prop := Claim7.holds Tryd.pinned (.plain (OpenSpec.upto autoPartsSpec)) autoPartsUptoCard

/-- THE SECOND FORM's CARD OF 'mizmazelaw01.AutoUnions'. -/
def autoUnionsUptoCard : Claim7 := { stood := { row := autoUnionsUptoRow, standIns := [], harness := (true, "0fe951ac29adc288bb47bbf0551a262354a224d4a978adb317e03b35a69715f9"), looks := true }, kinds := [], alts := [], laidByText := true, laidKinds := [.data, .data, .data, .data, .sentinel, .sentinel, .pinned], laidTests := true, laidLooks := .later }
def AutoUnionsUptoCardSaid : Prop := Claim7.holds Tryd.pinned (.plain (OpenSpec.upto autoUnionsSpec)) autoUnionsUptoCard

/-- THE SECOND FORM's CARD OF 'mizmazelaw01.AutoNames'. -/
def autoNamesUptoCard : Claim7 := { stood := { row := autoNamesUptoRow, standIns := [], harness := (true, "0fe951ac29adc288bb47bbf0551a262354a224d4a978adb317e03b35a69715f9"), looks := true }, kinds := [], alts := [], laidByText := true, laidKinds := [.data, .data, .data, .data, .sentinel, .sentinel, .pinned], laidTests := true, laidLooks := .later }
def AutoNamesUptoCardSaid : Prop := Claim7.holds Tryd.pinned (.plain (OpenSpec.upto autoNamesSpec)) autoNamesUptoCard

/-- THE SECOND FORM's CARD OF 'mizmazelaw02.NetPaths'. -/
def netPathsUptoCard : Claim7 := { stood := { row := netPathsUptoRow, standIns := [], harness := (true, "0fe951ac29adc288bb47bbf0551a262354a224d4a978adb317e03b35a69715f9"), looks := true }, kinds := [], alts := [], laidByText := true, laidKinds := [.data], laidTests := true, laidLooks := .later }
def NetPathsUptoCardSaid : Prop := Claim7.holds Tryd.pinned (.plain (OpenSpec.upto netPathsSpec)) netPathsUptoCard

/-- THE SECOND FORM's CARD OF 'mizmazelaw02.NetSinks'. -/
def netSinksUptoCard : Claim7 := { stood := { row := netSinksUptoRow, standIns := [], harness := (true, "0fe951ac29adc288bb47bbf0551a262354a224d4a978adb317e03b35a69715f9"), looks := true }, kinds := [], alts := [], laidByText := true, laidKinds := [.data], laidTests := true, laidLooks := .later }
def NetSinksUptoCardSaid : Prop := Claim7.holds Tryd.pinned (.plain (OpenSpec.upto netSinksSpec)) netSinksUptoCard

/-- THE SECOND FORM's CARD OF 'mizmazelaw02.NetClasses'. -/
def netClassesUptoCard : Claim7 := { stood := { row := netClassesUptoRow, standIns := [], harness := (true, "0fe951ac29adc288bb47bbf0551a262354a224d4a978adb317e03b35a69715f9"), looks := true }, kinds := [], alts := [], laidByText := true, laidKinds := [.data], laidTests := true, laidLooks := .later }
def NetClassesUptoCardSaid : Prop := Claim7.holds Tryd.pinned (.plain (OpenSpec.upto netClassesSpec)) netClassesUptoCard

/-- THE SECOND FORM's CARD OF 'mizmazelaw02.NetEnds'. -/
def netEndsUptoCard : Claim7 := { stood := { row := netEndsUptoRow, standIns := [], harness := (true, "0fe951ac29adc288bb47bbf0551a262354a224d4a978adb317e03b35a69715f9"), looks := true }, kinds := [], alts := [], laidByText := true, laidKinds := [.data], laidTests := true, laidLooks := .later }
def NetEndsUptoCardSaid : Prop := Claim7.holds Tryd.pinned (.plain (OpenSpec.upto netEndsSpec)) netEndsUptoCard

/-- THE SECOND FORM's CARD OF 'mizmazelaw02.NetReset'. -/
def netResetUptoCard : Claim7 := { stood := { row := netResetUptoRow, standIns := [], harness := (true, "0fe951ac29adc288bb47bbf0551a262354a224d4a978adb317e03b35a69715f9"), looks := true }, kinds := [], alts := [], laidByText := true, laidKinds := [.data], laidTests := true, laidLooks := .later }
def NetResetUptoCardSaid : Prop := Claim7.holds Tryd.pinned (.plain (OpenSpec.upto netResetSpec)) netResetUptoCard
end Rows
end Go.Proofs.YtibaihchnbbokaaDoor
