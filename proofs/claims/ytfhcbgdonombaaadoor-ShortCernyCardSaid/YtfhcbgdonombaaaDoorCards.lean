/-
  DERIVED. GIVEN WITH THE SEED: THE CARDS: each row of YtfhcbgdonombaaaDoorRows.lean that lists a variable, with what it lists TIED to the program's text (the seventh form; the later family's looks); each row that meets fmt, with fmt's text TOLD by the authors' own Lean function (tested against real Go, not proved from fmt's source: count such statements apart). THE CARD IS WHAT COUNTS. Prove the row's statement (the work); the ties are given (YtfhcbgdonombaaaDoorTie.lean); close each card by the builder's one call (the guide's Derived/Test/ToyasCard.lean, 'card_holds'). Laid BY PROGRAM, IN A SANDBOX (cutbox-door.mjs). By AI agents, Wed Nov 11 2026. No macro, syntax, notation, axiom, sorry.
-/
import Derived.Test.YtfhcbgdonombaaaDoorRows
import GoSem.ClaimSeven
namespace Go.Proofs.YtfhcbgdonombaaaDoor
namespace Rows

/-- THE TIED CARD OF 'mizmazelaw04.ShortFinds'. -/
def shortFindsCard : Claim7 := { stood := { row := shortFindsRow, standIns := [], harness := (true, "cade50a8943c93e93ceda86e6c67f2e3f9a4012356bc60bd1ca349b4dbf25235"), looks := false }, kinds := [], alts := [], laidByText := true, laidKinds := [.data], laidTests := true, laidLooks := .later }
def ShortFindsCardSaid : Prop := Claim7.holds Tryd.pinned (.plain (OpenSpec.ofChange shortFindsSpec)) shortFindsCard

/-- THE TIED CARD OF 'mizmazelaw04.ShortRanks'. -/
def shortRanksCard : Claim7 := { stood := { row := shortRanksRow, standIns := [], harness := (true, "cade50a8943c93e93ceda86e6c67f2e3f9a4012356bc60bd1ca349b4dbf25235"), looks := false }, kinds := [], alts := [], laidByText := true, laidKinds := [.data], laidTests := true, laidLooks := .later }
def ShortRanksCardSaid : Prop := Claim7.holds Tryd.pinned (.plain (OpenSpec.ofChange shortRanksSpec)) shortRanksCard

/-- THE TIED CARD OF 'mizmazelaw04.ShortCerny'. -/
def shortCernyCard : Claim7 := { stood := { row := shortCernyRow, standIns := [], harness := (true, "cade50a8943c93e93ceda86e6c67f2e3f9a4012356bc60bd1ca349b4dbf25235"), looks := false }, kinds := [], alts := [], laidByText := true, laidKinds := [.data], laidTests := true, laidLooks := .later }
def ShortCernyCardSaid : Prop := Claim7.holds Tryd.pinned (.plain (OpenSpec.ofChange shortCernySpec)) shortCernyCard

/-- THE TIED CARD OF 'mizmazelaw04.ShortLeast'. -/
def shortLeastCard : Claim7 := { stood := { row := shortLeastRow, standIns := [], harness := (true, "cade50a8943c93e93ceda86e6c67f2e3f9a4012356bc60bd1ca349b4dbf25235"), looks := false }, kinds := [], alts := [], laidByText := true, laidKinds := [.data], laidTests := true, laidLooks := .later }
def ShortLeastCardSaid : Prop := Claim7.holds Tryd.pinned (.plain (OpenSpec.ofChange shortLeastSpec)) shortLeastCard

/-- THE TIED CARD OF 'mizmazelaw04.ShortSmall'. -/
def shortSmallCard : Claim7 := { stood := { row := shortSmallRow, standIns := [], harness := (true, "cade50a8943c93e93ceda86e6c67f2e3f9a4012356bc60bd1ca349b4dbf25235"), looks := false }, kinds := [], alts := [], laidByText := true, laidKinds := [.data], laidTests := true, laidLooks := .later }
def ShortSmallCardSaid : Prop := Claim7.holds Tryd.pinned (.plain (OpenSpec.ofChange shortSmallSpec)) shortSmallCard

/-- THE TIED CARD OF 'mizmazetop.TopShortest'. -/
def topShortestCard : Claim7 := { stood := { row := topShortestRow, standIns := [], harness := (true, "cade50a8943c93e93ceda86e6c67f2e3f9a4012356bc60bd1ca349b4dbf25235"), looks := false }, kinds := [], alts := [], laidByText := true, laidKinds := [.data], laidTests := true, laidLooks := .later }
def TopShortestCardSaid : Prop := Claim7.holds Tryd.pinned (.plain (OpenSpec.ofChange topShortestSpec)) topShortestCard

/-- THE SECOND FORM's CARD OF 'mizmazelaw04.ShortFinds'. -/
def shortFindsUptoCard : Claim7 := { stood := { row := shortFindsUptoRow, standIns := [], harness := (true, "cade50a8943c93e93ceda86e6c67f2e3f9a4012356bc60bd1ca349b4dbf25235"), looks := false }, kinds := [], alts := [], laidByText := true, laidKinds := [.data], laidTests := true, laidLooks := .later }
def ShortFindsUptoCardSaid : Prop := Claim7.holds Tryd.pinned (.plain (OpenSpec.upto shortFindsSpec)) shortFindsUptoCard

/-- THE SECOND FORM's CARD OF 'mizmazelaw04.ShortRanks'. -/
def shortRanksUptoCard : Claim7 := { stood := { row := shortRanksUptoRow, standIns := [], harness := (true, "cade50a8943c93e93ceda86e6c67f2e3f9a4012356bc60bd1ca349b4dbf25235"), looks := false }, kinds := [], alts := [], laidByText := true, laidKinds := [.data], laidTests := true, laidLooks := .later }
def ShortRanksUptoCardSaid : Prop := Claim7.holds Tryd.pinned (.plain (OpenSpec.upto shortRanksSpec)) shortRanksUptoCard

/-- THE SECOND FORM's CARD OF 'mizmazelaw04.ShortCerny'. -/
def shortCernyUptoCard : Claim7 := { stood := { row := shortCernyUptoRow, standIns := [], harness := (true, "cade50a8943c93e93ceda86e6c67f2e3f9a4012356bc60bd1ca349b4dbf25235"), looks := false }, kinds := [], alts := [], laidByText := true, laidKinds := [.data], laidTests := true, laidLooks := .later }
def ShortCernyUptoCardSaid : Prop := Claim7.holds Tryd.pinned (.plain (OpenSpec.upto shortCernySpec)) shortCernyUptoCard

/-- THE SECOND FORM's CARD OF 'mizmazelaw04.ShortLeast'. -/
def shortLeastUptoCard : Claim7 := { stood := { row := shortLeastUptoRow, standIns := [], harness := (true, "cade50a8943c93e93ceda86e6c67f2e3f9a4012356bc60bd1ca349b4dbf25235"), looks := false }, kinds := [], alts := [], laidByText := true, laidKinds := [.data], laidTests := true, laidLooks := .later }
def ShortLeastUptoCardSaid : Prop := Claim7.holds Tryd.pinned (.plain (OpenSpec.upto shortLeastSpec)) shortLeastUptoCard

/-- THE SECOND FORM's CARD OF 'mizmazelaw04.ShortSmall'. -/
def shortSmallUptoCard : Claim7 := { stood := { row := shortSmallUptoRow, standIns := [], harness := (true, "cade50a8943c93e93ceda86e6c67f2e3f9a4012356bc60bd1ca349b4dbf25235"), looks := false }, kinds := [], alts := [], laidByText := true, laidKinds := [.data], laidTests := true, laidLooks := .later }
def ShortSmallUptoCardSaid : Prop := Claim7.holds Tryd.pinned (.plain (OpenSpec.upto shortSmallSpec)) shortSmallUptoCard

/-- THE SECOND FORM's CARD OF 'mizmazetop.TopShortest'. -/
def topShortestUptoCard : Claim7 := { stood := { row := topShortestUptoRow, standIns := [], harness := (true, "cade50a8943c93e93ceda86e6c67f2e3f9a4012356bc60bd1ca349b4dbf25235"), looks := false }, kinds := [], alts := [], laidByText := true, laidKinds := [.data], laidTests := true, laidLooks := .later }
def TopShortestUptoCardSaid : Prop := Claim7.holds Tryd.pinned (.plain (OpenSpec.upto topShortestSpec)) topShortestUptoCard
end Rows
end Go.Proofs.YtfhcbgdonombaaaDoor
