/-
  DERIVED. GIVEN WITH THE SEED: THE CARDS: each row of YtiiiinoappjhdaaDoorRows.lean that lists a variable, with what it lists TIED to the program's text (the seventh form; the later family's looks); each row that meets fmt, with fmt's text TOLD by the authors' own Lean function (tested against real Go, not proved from fmt's source: count such statements apart). THE CARD IS WHAT COUNTS. Prove the row's statement (the work); the ties are given (YtiiiinoappjhdaaDoorTie.lean); close each card by the builder's one call (the guide's Derived/Test/ToyasCard.lean, 'card_holds'). Laid BY PROGRAM, IN A SANDBOX (cutbox-door.mjs). By AI agents, Wed Nov 11 2026. No macro, syntax, notation, axiom, sorry.
-/
import Derived.Test.YtiiiinoappjhdaaDoorRows
import GoSem.ClaimSeven
namespace Go.Proofs.YtiiiinoappjhdaaDoor
namespace Rows

/-- THE TIED CARD OF 'mizmazelaw04.ShortFinds'. -/
def shortFindsCard : Claim7 := { stood := { row := shortFindsRow, standIns := [], harness := (true, "12c26a16431a2d78869e70e8ee206c08eb365d51359fcdfa4175efda522b8fc9"), looks := false }, kinds := [], alts := [], laidByText := true, laidKinds := [.data], laidTests := true, laidLooks := .later }
def ShortFindsCardSaid : Prop := Claim7.holds Tryd.pinned (.plain (OpenSpec.ofChange shortFindsSpec)) shortFindsCard

/-- THE TIED CARD OF 'mizmazelaw04.ShortRanks'. -/
def shortRanksCard : Claim7 := { stood := { row := shortRanksRow, standIns := [], harness := (true, "12c26a16431a2d78869e70e8ee206c08eb365d51359fcdfa4175efda522b8fc9"), looks := false }, kinds := [], alts := [], laidByText := true, laidKinds := [.data], laidTests := true, laidLooks := .later }
def ShortRanksCardSaid : Prop := Claim7.holds Tryd.pinned (.plain (OpenSpec.ofChange shortRanksSpec)) shortRanksCard

/-- THE TIED CARD OF 'mizmazelaw04.ShortCerny'. -/
def shortCernyCard : Claim7 := { stood := { row := shortCernyRow, standIns := [], harness := (true, "12c26a16431a2d78869e70e8ee206c08eb365d51359fcdfa4175efda522b8fc9"), looks := false }, kinds := [], alts := [], laidByText := true, laidKinds := [.data], laidTests := true, laidLooks := .later }
def ShortCernyCardSaid : Prop := Claim7.holds Tryd.pinned (.plain (OpenSpec.ofChange shortCernySpec)) shortCernyCard

/-- THE TIED CARD OF 'mizmazelaw04.ShortLeast'. -/
def shortLeastCard : Claim7 := { stood := { row := shortLeastRow, standIns := [], harness := (true, "12c26a16431a2d78869e70e8ee206c08eb365d51359fcdfa4175efda522b8fc9"), looks := false }, kinds := [], alts := [], laidByText := true, laidKinds := [.data], laidTests := true, laidLooks := .later }
def ShortLeastCardSaid : Prop := Claim7.holds Tryd.pinned (.plain (OpenSpec.ofChange shortLeastSpec)) shortLeastCard

/-- THE TIED CARD OF 'mizmazelaw04.ShortSmall'. -/
def shortSmallCard : Claim7 := { stood := { row := shortSmallRow, standIns := [], harness := (true, "12c26a16431a2d78869e70e8ee206c08eb365d51359fcdfa4175efda522b8fc9"), looks := false }, kinds := [], alts := [], laidByText := true, laidKinds := [.data], laidTests := true, laidLooks := .later }
def ShortSmallCardSaid : Prop := Claim7.holds Tryd.pinned (.plain (OpenSpec.ofChange shortSmallSpec)) shortSmallCard

/-- THE TIED CARD OF 'mizmazetop.TopShortest'. -/
def topShortestCard : Claim7 := { stood := { row := topShortestRow, standIns := [], harness := (true, "12c26a16431a2d78869e70e8ee206c08eb365d51359fcdfa4175efda522b8fc9"), looks := false }, kinds := [], alts := [], laidByText := true, laidKinds := [.data], laidTests := true, laidLooks := .later }
def TopShortestCardSaid : Prop := Claim7.holds Tryd.pinned (.plain (OpenSpec.ofChange topShortestSpec)) topShortestCard

/-- THE TIED CARD OF 'mizmazetop.TopCerny'. -/
def topCernyCard : Claim7 := { stood := { row := topCernyRow, standIns := [], harness := (true, "12c26a16431a2d78869e70e8ee206c08eb365d51359fcdfa4175efda522b8fc9"), looks := false }, kinds := [], alts := [], laidByText := true, laidKinds := [.data], laidTests := true, laidLooks := .later }
def TopCernyCardSaid : Prop := Claim7.holds Tryd.pinned (.plain (OpenSpec.ofChange topCernySpec)) topCernyCard

/-- THE TIED CARD OF 'mizmazetop.TopSmall'. -/
def topSmallCard : Claim7 := { stood := { row := topSmallRow, standIns := [], harness := (true, "12c26a16431a2d78869e70e8ee206c08eb365d51359fcdfa4175efda522b8fc9"), looks := false }, kinds := [], alts := [], laidByText := true, laidKinds := [.data], laidTests := true, laidLooks := .later }
def TopSmallCardSaid : Prop := Claim7.holds Tryd.pinned (.plain (OpenSpec.ofChange topSmallSpec)) topSmallCard

/-- THE SECOND FORM's CARD OF 'mizmazelaw04.ShortFinds'. -/
def shortFindsUptoCard : Claim7 := { stood := { row := shortFindsUptoRow, standIns := [], harness := (true, "12c26a16431a2d78869e70e8ee206c08eb365d51359fcdfa4175efda522b8fc9"), looks := false }, kinds := [], alts := [], laidByText := true, laidKinds := [.data], laidTests := true, laidLooks := .later }
def ShortFindsUptoCardSaid : Prop := Claim7.holds Tryd.pinned (.plain (OpenSpec.upto shortFindsSpec)) shortFindsUptoCard

/-- THE SECOND FORM's CARD OF 'mizmazelaw04.ShortRanks'. -/
def shortRanksUptoCard : Claim7 := { stood := { row := shortRanksUptoRow, standIns := [], harness := (true, "12c26a16431a2d78869e70e8ee206c08eb365d51359fcdfa4175efda522b8fc9"), looks := false }, kinds := [], alts := [], laidByText := true, laidKinds := [.data], laidTests := true, laidLooks := .later }
def ShortRanksUptoCardSaid : Prop := Claim7.holds Tryd.pinned (.plain (OpenSpec.upto shortRanksSpec)) shortRanksUptoCard

/-- THE SECOND FORM's CARD OF 'mizmazelaw04.ShortCerny'. -/
def shortCernyUptoCard : Claim7 := { stood := { row := shortCernyUptoRow, standIns := [], harness := (true, "12c26a16431a2d78869e70e8ee206c08eb365d51359fcdfa4175efda522b8fc9"), looks := false }, kinds := [], alts := [], laidByText := true, laidKinds := [.data], laidTests := true, laidLooks := .later }
def ShortCernyUptoCardSaid : Prop := Claim7.holds Tryd.pinned (.plain (OpenSpec.upto shortCernySpec)) shortCernyUptoCard

/-- THE SECOND FORM's CARD OF 'mizmazelaw04.ShortLeast'. -/
def shortLeastUptoCard : Claim7 := { stood := { row := shortLeastUptoRow, standIns := [], harness := (true, "12c26a16431a2d78869e70e8ee206c08eb365d51359fcdfa4175efda522b8fc9"), looks := false }, kinds := [], alts := [], laidByText := true, laidKinds := [.data], laidTests := true, laidLooks := .later }
def ShortLeastUptoCardSaid : Prop := Claim7.holds Tryd.pinned (.plain (OpenSpec.upto shortLeastSpec)) shortLeastUptoCard

/-- THE SECOND FORM's CARD OF 'mizmazelaw04.ShortSmall'. -/
def shortSmallUptoCard : Claim7 := { stood := { row := shortSmallUptoRow, standIns := [], harness := (true, "12c26a16431a2d78869e70e8ee206c08eb365d51359fcdfa4175efda522b8fc9"), looks := false }, kinds := [], alts := [], laidByText := true, laidKinds := [.data], laidTests := true, laidLooks := .later }
def ShortSmallUptoCardSaid : Prop := Claim7.holds Tryd.pinned (.plain (OpenSpec.upto shortSmallSpec)) shortSmallUptoCard

/-- THE SECOND FORM's CARD OF 'mizmazetop.TopShortest'. -/
def topShortestUptoCard : Claim7 := { stood := { row := topShortestUptoRow, standIns := [], harness := (true, "12c26a16431a2d78869e70e8ee206c08eb365d51359fcdfa4175efda522b8fc9"), looks := false }, kinds := [], alts := [], laidByText := true, laidKinds := [.data], laidTests := true, laidLooks := .later }
def TopShortestUptoCardSaid : Prop := Claim7.holds Tryd.pinned (.plain (OpenSpec.upto topShortestSpec)) topShortestUptoCard

/-- THE SECOND FORM's CARD OF 'mizmazetop.TopCerny'. -/
def topCernyUptoCard : Claim7 := { stood := { row := topCernyUptoRow, standIns := [], harness := (true, "12c26a16431a2d78869e70e8ee206c08eb365d51359fcdfa4175efda522b8fc9"), looks := false }, kinds := [], alts := [], laidByText := true, laidKinds := [.data], laidTests := true, laidLooks := .later }
def TopCernyUptoCardSaid : Prop := Claim7.holds Tryd.pinned (.plain (OpenSpec.upto topCernySpec)) topCernyUptoCard

/-- THE SECOND FORM's CARD OF 'mizmazetop.TopSmall'. -/
def topSmallUptoCard : Claim7 := { stood := { row := topSmallUptoRow, standIns := [], harness := (true, "12c26a16431a2d78869e70e8ee206c08eb365d51359fcdfa4175efda522b8fc9"), looks := false }, kinds := [], alts := [], laidByText := true, laidKinds := [.data], laidTests := true, laidLooks := .later }
def TopSmallUptoCardSaid : Prop := Claim7.holds Tryd.pinned (.plain (OpenSpec.upto topSmallSpec)) topSmallUptoCard
end Rows
end Go.Proofs.YtiiiinoappjhdaaDoor
