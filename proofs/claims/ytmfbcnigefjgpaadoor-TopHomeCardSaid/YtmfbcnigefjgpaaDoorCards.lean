/-
  DERIVED. GIVEN WITH THE SEED: THE CARDS: each row of YtmfbcnigefjgpaaDoorRows.lean that lists a variable, with what it lists TIED to the program's text (the seventh form; the later family's looks); each row that meets fmt, with fmt's text TOLD by the authors' own Lean function (tested against real Go, not proved from fmt's source: count such statements apart). THE CARD IS WHAT COUNTS. Prove the row's statement (the work); the ties are given (YtmfbcnigefjgpaaDoorTie.lean); close each card by the builder's one call (the guide's Derived/Test/ToyasCard.lean, 'card_holds'). Laid BY PROGRAM, IN A SANDBOX (cutbox-door.mjs). By AI agents, Wed Nov 11 2026. No macro, syntax, notation, axiom, sorry.
-/
import Derived.Test.YtmfbcnigefjgpaaDoorRows
import GoSem.ClaimSeven
namespace Go.Proofs.YtmfbcnigefjgpaaDoor
namespace Rows

/-- THE TIED CARD OF 'mizmazelaw03.ResetMerges'. -/
def resetMergesCard : Claim7 := { stood := { row := resetMergesRow, standIns := [], harness := (true, "e431b50ff8611cd013f2f329677b7c7400a2878a69b3e02a5970b5bb07223855"), looks := false }, kinds := [], alts := [], laidByText := true, laidKinds := [.data], laidTests := true, laidLooks := .later }
def ResetMergesCardSaid : Prop := Claim7.holds Tryd.pinned (.plain (OpenSpec.ofChange resetMergesSpec)) resetMergesCard

/-- THE TIED CARD OF 'mizmazelaw03.ResetFinds'. -/
def resetFindsCard : Claim7 := { stood := { row := resetFindsRow, standIns := [], harness := (true, "e431b50ff8611cd013f2f329677b7c7400a2878a69b3e02a5970b5bb07223855"), looks := false }, kinds := [], alts := [], laidByText := true, laidKinds := [.data], laidTests := true, laidLooks := .later }
def ResetFindsCardSaid : Prop := Claim7.holds Tryd.pinned (.plain (OpenSpec.ofChange resetFindsSpec)) resetFindsCard

/-- THE TIED CARD OF 'mizmazelaw03.ResetClosed'. -/
def resetClosedCard : Claim7 := { stood := { row := resetClosedRow, standIns := [], harness := (true, "e431b50ff8611cd013f2f329677b7c7400a2878a69b3e02a5970b5bb07223855"), looks := false }, kinds := [], alts := [], laidByText := true, laidKinds := [.data], laidTests := true, laidLooks := .later }
def ResetClosedCardSaid : Prop := Claim7.holds Tryd.pinned (.plain (OpenSpec.ofChange resetClosedSpec)) resetClosedCard

/-- THE TIED CARD OF 'mizmazelaw03.ResetMore'. -/
def resetMoreCard : Claim7 := { stood := { row := resetMoreRow, standIns := [], harness := (true, "e431b50ff8611cd013f2f329677b7c7400a2878a69b3e02a5970b5bb07223855"), looks := false }, kinds := [], alts := [], laidByText := true, laidKinds := [.data], laidTests := true, laidLooks := .later }
def ResetMoreCardSaid : Prop := Claim7.holds Tryd.pinned (.plain (OpenSpec.ofChange resetMoreSpec)) resetMoreCard

/-- THE TIED CARD OF 'mizmazelaw03.ResetMerged'. -/
def resetMergedCard : Claim7 := { stood := { row := resetMergedRow, standIns := [], harness := (true, "e431b50ff8611cd013f2f329677b7c7400a2878a69b3e02a5970b5bb07223855"), looks := false }, kinds := [], alts := [], laidByText := true, laidKinds := [.data], laidTests := true, laidLooks := .later }
def ResetMergedCardSaid : Prop := Claim7.holds Tryd.pinned (.plain (OpenSpec.ofChange resetMergedSpec)) resetMergedCard

/-- THE TIED CARD OF 'mizmazetop.TopHome'. -/
def topHomeCard : Claim7 := { stood := { row := topHomeRow, standIns := [], harness := (true, "e431b50ff8611cd013f2f329677b7c7400a2878a69b3e02a5970b5bb07223855"), looks := false }, kinds := [], alts := [], laidByText := true, laidKinds := [.data], laidTests := true, laidLooks := .later }
def TopHomeCardSaid : Prop := Claim7.holds Tryd.pinned (.plain (OpenSpec.ofChange topHomeSpec)) topHomeCard

/-- THE SECOND FORM's CARD OF 'mizmazelaw03.ResetMerges'. -/
def resetMergesUptoCard : Claim7 := { stood := { row := resetMergesUptoRow, standIns := [], harness := (true, "e431b50ff8611cd013f2f329677b7c7400a2878a69b3e02a5970b5bb07223855"), looks := false }, kinds := [], alts := [], laidByText := true, laidKinds := [.data], laidTests := true, laidLooks := .later }
def ResetMergesUptoCardSaid : Prop := Claim7.holds Tryd.pinned (.plain (OpenSpec.upto resetMergesSpec)) resetMergesUptoCard

/-- THE SECOND FORM's CARD OF 'mizmazelaw03.ResetFinds'. -/
def resetFindsUptoCard : Claim7 := { stood := { row := resetFindsUptoRow, standIns := [], harness := (true, "e431b50ff8611cd013f2f329677b7c7400a2878a69b3e02a5970b5bb07223855"), looks := false }, kinds := [], alts := [], laidByText := true, laidKinds := [.data], laidTests := true, laidLooks := .later }
def ResetFindsUptoCardSaid : Prop := Claim7.holds Tryd.pinned (.plain (OpenSpec.upto resetFindsSpec)) resetFindsUptoCard

/-- THE SECOND FORM's CARD OF 'mizmazelaw03.ResetClosed'. -/
def resetClosedUptoCard : Claim7 := { stood := { row := resetClosedUptoRow, standIns := [], harness := (true, "e431b50ff8611cd013f2f329677b7c7400a2878a69b3e02a5970b5bb07223855"), looks := false }, kinds := [], alts := [], laidByText := true, laidKinds := [.data], laidTests := true, laidLooks := .later }
def ResetClosedUptoCardSaid : Prop := Claim7.holds Tryd.pinned (.plain (OpenSpec.upto resetClosedSpec)) resetClosedUptoCard

/-- THE SECOND FORM's CARD OF 'mizmazelaw03.ResetMore'. -/
def resetMoreUptoCard : Claim7 := { stood := { row := resetMoreUptoRow, standIns := [], harness := (true, "e431b50ff8611cd013f2f329677b7c7400a2878a69b3e02a5970b5bb07223855"), looks := false }, kinds := [], alts := [], laidByText := true, laidKinds := [.data], laidTests := true, laidLooks := .later }
def ResetMoreUptoCardSaid : Prop := Claim7.holds Tryd.pinned (.plain (OpenSpec.upto resetMoreSpec)) resetMoreUptoCard

/-- THE SECOND FORM's CARD OF 'mizmazelaw03.ResetMerged'. -/
def resetMergedUptoCard : Claim7 := { stood := { row := resetMergedUptoRow, standIns := [], harness := (true, "e431b50ff8611cd013f2f329677b7c7400a2878a69b3e02a5970b5bb07223855"), looks := false }, kinds := [], alts := [], laidByText := true, laidKinds := [.data], laidTests := true, laidLooks := .later }
def ResetMergedUptoCardSaid : Prop := Claim7.holds Tryd.pinned (.plain (OpenSpec.upto resetMergedSpec)) resetMergedUptoCard

/-- THE SECOND FORM's CARD OF 'mizmazetop.TopHome'. -/
def topHomeUptoCard : Claim7 := { stood := { row := topHomeUptoRow, standIns := [], harness := (true, "e431b50ff8611cd013f2f329677b7c7400a2878a69b3e02a5970b5bb07223855"), looks := false }, kinds := [], alts := [], laidByText := true, laidKinds := [.data], laidTests := true, laidLooks := .later }
def TopHomeUptoCardSaid : Prop := Claim7.holds Tryd.pinned (.plain (OpenSpec.upto topHomeSpec)) topHomeUptoCard
end Rows
end Go.Proofs.YtmfbcnigefjgpaaDoor
