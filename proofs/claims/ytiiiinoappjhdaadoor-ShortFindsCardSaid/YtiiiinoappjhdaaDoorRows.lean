/-
  NARROWER THAN 'FOR EVERY INPUT', by the rows' own cells (each row's printed sentence says how): ShortFinds: laid · ShortRanks: laid · ShortCerny: laid · ShortLeast: laid · ShortSmall: laid · TopShortest: laid · TopCerny: laid · TopSmall: laid.
  DERIVED. THE GIVEN ROWS OF THIS SEAT. 8 by the template 'for every input the law returns true; each argument reads behind the call as it read before'; 0 by the template 'total and deterministic' (their statements: YtiiiinoappjhdaaDoorTotals.lean).
  GIVEN WITH THE SEED: the statements are not yours to turn. If you find one false, say at which input.
  Laid BY PROGRAM, IN A SANDBOX (cutbox-rows.mjs): the forced cells as the released guide's own fill.sh prints them over the translation 0662dfaa732ace38… (all of the seat's roots in one cut). By AI agents, Wed Nov 11 2026. No macro, syntax, notation, axiom, sorry.
-/
import Derived.Test.YtiiiinoappjhdaaDoorChecked
import GoSem.Claim
import GoSem.ClaimJoined
import GoSem.ClaimMapViews
import Derived.JoinedTies
import Derived.KernelRfl
namespace Go.Proofs.YtiiiinoappjhdaaDoor
/- THE CELL 'sum', in the pinned program and in every row, IS THE sha256 OF THE DUMP (.gsa) THAT YtiiiinoappjhdaaDoorProg.lean LOADS. Nothing in Lean hashes anything: it is a label: what it is worth is what the hold of that sum in a sandbox is worth. -/
noncomputable def Tryd.pinned : Pinned := { name := "ytiiiinoappjhdaadoor", sum := "0662dfaa732ace388d78f1af7932fb4e0ee82599193328574c7d66a67e077540", checked := Tryd.checked }
namespace Rows
def none {H : Type} : Left H := { results := [], args := [] }

/- WHAT THE LISTED PACKAGE-LEVEL VARIABLES READ AS WHEN THE CALL BEGINS. Each datum BY PROGRAM (the guide's laid-datum.mjs) off the statement by which the dump's own 'gosem.cut.vars' lays the variable. In a bare row this is a premise. The card (YtiiiinoappjhdaaDoorCards.lean) ties it to the program's text. -/
def laid_math_bits_deBruijn64tab {H : Type} : DataW H := .agg [.lit (.int .u8 0), .lit (.int .u8 1), .lit (.int .u8 56), .lit (.int .u8 2), .lit (.int .u8 57), .lit (.int .u8 49), .lit (.int .u8 28), .lit (.int .u8 3), .lit (.int .u8 61), .lit (.int .u8 58), .lit (.int .u8 42), .lit (.int .u8 50), .lit (.int .u8 38), .lit (.int .u8 29), .lit (.int .u8 17), .lit (.int .u8 4), .lit (.int .u8 62), .lit (.int .u8 47), .lit (.int .u8 59), .lit (.int .u8 36), .lit (.int .u8 45), .lit (.int .u8 43), .lit (.int .u8 51), .lit (.int .u8 22), .lit (.int .u8 53), .lit (.int .u8 39), .lit (.int .u8 33), .lit (.int .u8 30), .lit (.int .u8 24), .lit (.int .u8 18), .lit (.int .u8 12), .lit (.int .u8 5), .lit (.int .u8 63), .lit (.int .u8 55), .lit (.int .u8 48), .lit (.int .u8 27), .lit (.int .u8 60), .lit (.int .u8 41), .lit (.int .u8 37), .lit (.int .u8 16), .lit (.int .u8 46), .lit (.int .u8 35), .lit (.int .u8 44), .lit (.int .u8 21), .lit (.int .u8 52), .lit (.int .u8 32), .lit (.int .u8 23), .lit (.int .u8 11), .lit (.int .u8 54), .lit (.int .u8 26), .lit (.int .u8 40), .lit (.int .u8 15), .lit (.int .u8 34), .lit (.int .u8 20), .lit (.int .u8 31), .lit (.int .u8 10), .lit (.int .u8 25), .lit (.int .u8 14), .lit (.int .u8 19), .lit (.int .u8 9), .lit (.int .u8 13), .lit (.int .u8 8), .lit (.int .u8 7), .lit (.int .u8 6)]

/-- 'mizmazelaw04.ShortFinds': WHATEVER THE INPUT: true; the input reads as it did. -/
def shortFindsSpec : ChangeSpec := { name := "shortFinds", fn := fun _ => fun
  | [d] => { results := [.lit (.bool true)], args := [d] }
  | _ => none }
def shortFindsRow : OpenClaim := { program := "ytiiiinoappjhdaadoor", sum := "0662dfaa732ace388d78f1af7932fb4e0ee82599193328574c7d66a67e077540", func := "mizmaze/mizmazelaw04.ShortFinds", spec := "shortFinds", unfollowed := true, recurses := true, named := ["math/bits.deBruijn64tab"], plainKeys := false, apart := false, laid := [("math/bits.deBruijn64tab", laid_math_bits_deBruijn64tab)] }
def ShortFindsSaid : Prop := shortFindsRow.holds Tryd.pinned (OpenSpec.ofChange shortFindsSpec)

/-- ITS FALSE NEIGHBOUR: 'it returns false'. Refute it at one input. -/
def shortFindsWrong : ChangeSpec := { name := "shortFinds", fn := fun _ => fun
  | [d] => { results := [.lit (.bool false)], args := [d] }
  | _ => none }
def ShortFindsWrongFalsely : Prop := shortFindsRow.holds Tryd.pinned (OpenSpec.ofChange shortFindsWrong)

/-- 'mizmazelaw04.ShortRanks': WHATEVER THE INPUT: true; the input reads as it did. -/
def shortRanksSpec : ChangeSpec := { name := "shortRanks", fn := fun _ => fun
  | [d] => { results := [.lit (.bool true)], args := [d] }
  | _ => none }
def shortRanksRow : OpenClaim := { program := "ytiiiinoappjhdaadoor", sum := "0662dfaa732ace388d78f1af7932fb4e0ee82599193328574c7d66a67e077540", func := "mizmaze/mizmazelaw04.ShortRanks", spec := "shortRanks", unfollowed := true, recurses := true, named := ["math/bits.deBruijn64tab"], plainKeys := false, apart := false, laid := [("math/bits.deBruijn64tab", laid_math_bits_deBruijn64tab)] }
def ShortRanksSaid : Prop := shortRanksRow.holds Tryd.pinned (OpenSpec.ofChange shortRanksSpec)

/-- ITS FALSE NEIGHBOUR: 'it returns false'. Refute it at one input. -/
def shortRanksWrong : ChangeSpec := { name := "shortRanks", fn := fun _ => fun
  | [d] => { results := [.lit (.bool false)], args := [d] }
  | _ => none }
def ShortRanksWrongFalsely : Prop := shortRanksRow.holds Tryd.pinned (OpenSpec.ofChange shortRanksWrong)

/-- 'mizmazelaw04.ShortCerny': WHATEVER THE INPUT: true; the input reads as it did. -/
def shortCernySpec : ChangeSpec := { name := "shortCerny", fn := fun _ => fun
  | [d] => { results := [.lit (.bool true)], args := [d] }
  | _ => none }
def shortCernyRow : OpenClaim := { program := "ytiiiinoappjhdaadoor", sum := "0662dfaa732ace388d78f1af7932fb4e0ee82599193328574c7d66a67e077540", func := "mizmaze/mizmazelaw04.ShortCerny", spec := "shortCerny", unfollowed := true, recurses := true, named := ["math/bits.deBruijn64tab"], plainKeys := false, apart := false, laid := [("math/bits.deBruijn64tab", laid_math_bits_deBruijn64tab)] }
def ShortCernySaid : Prop := shortCernyRow.holds Tryd.pinned (OpenSpec.ofChange shortCernySpec)

/-- ITS FALSE NEIGHBOUR: 'it returns false'. Refute it at one input. -/
def shortCernyWrong : ChangeSpec := { name := "shortCerny", fn := fun _ => fun
  | [d] => { results := [.lit (.bool false)], args := [d] }
  | _ => none }
def ShortCernyWrongFalsely : Prop := shortCernyRow.holds Tryd.pinned (OpenSpec.ofChange shortCernyWrong)

/-- 'mizmazelaw04.ShortLeast': WHATEVER THE INPUT: true; the input reads as it did. -/
def shortLeastSpec : ChangeSpec := { name := "shortLeast", fn := fun _ => fun
  | [d1, d2] => { results := [.lit (.bool true)], args := [d1, d2] }
  | _ => none }
def shortLeastRow : OpenClaim := { program := "ytiiiinoappjhdaadoor", sum := "0662dfaa732ace388d78f1af7932fb4e0ee82599193328574c7d66a67e077540", func := "mizmaze/mizmazelaw04.ShortLeast", spec := "shortLeast", unfollowed := true, recurses := true, named := ["math/bits.deBruijn64tab"], plainKeys := false, apart := false, laid := [("math/bits.deBruijn64tab", laid_math_bits_deBruijn64tab)] }
def ShortLeastSaid : Prop := shortLeastRow.holds Tryd.pinned (OpenSpec.ofChange shortLeastSpec)

/-- ITS FALSE NEIGHBOUR: 'it returns false'. Refute it at one input. -/
def shortLeastWrong : ChangeSpec := { name := "shortLeast", fn := fun _ => fun
  | [d1, d2] => { results := [.lit (.bool false)], args := [d1, d2] }
  | _ => none }
def ShortLeastWrongFalsely : Prop := shortLeastRow.holds Tryd.pinned (OpenSpec.ofChange shortLeastWrong)

/-- 'mizmazelaw04.ShortSmall': WHATEVER THE INPUT: true; the input reads as it did. -/
def shortSmallSpec : ChangeSpec := { name := "shortSmall", fn := fun _ => fun
  | [d1, d2] => { results := [.lit (.bool true)], args := [d1, d2] }
  | _ => none }
def shortSmallRow : OpenClaim := { program := "ytiiiinoappjhdaadoor", sum := "0662dfaa732ace388d78f1af7932fb4e0ee82599193328574c7d66a67e077540", func := "mizmaze/mizmazelaw04.ShortSmall", spec := "shortSmall", unfollowed := true, recurses := true, named := ["math/bits.deBruijn64tab"], plainKeys := false, apart := false, laid := [("math/bits.deBruijn64tab", laid_math_bits_deBruijn64tab)] }
def ShortSmallSaid : Prop := shortSmallRow.holds Tryd.pinned (OpenSpec.ofChange shortSmallSpec)

/-- ITS FALSE NEIGHBOUR: 'it returns false'. Refute it at one input. -/
def shortSmallWrong : ChangeSpec := { name := "shortSmall", fn := fun _ => fun
  | [d1, d2] => { results := [.lit (.bool false)], args := [d1, d2] }
  | _ => none }
def ShortSmallWrongFalsely : Prop := shortSmallRow.holds Tryd.pinned (OpenSpec.ofChange shortSmallWrong)

/-- 'mizmazetop.TopShortest': WHATEVER THE INPUT: true; the input reads as it did. -/
def topShortestSpec : ChangeSpec := { name := "topShortest", fn := fun _ => fun
  | [d1, d2] => { results := [.lit (.bool true)], args := [d1, d2] }
  | _ => none }
def topShortestRow : OpenClaim := { program := "ytiiiinoappjhdaadoor", sum := "0662dfaa732ace388d78f1af7932fb4e0ee82599193328574c7d66a67e077540", func := "mizmaze/mizmazetop.TopShortest", spec := "topShortest", unfollowed := true, recurses := true, named := ["math/bits.deBruijn64tab"], plainKeys := false, apart := false, laid := [("math/bits.deBruijn64tab", laid_math_bits_deBruijn64tab)] }
def TopShortestSaid : Prop := topShortestRow.holds Tryd.pinned (OpenSpec.ofChange topShortestSpec)

/-- ITS FALSE NEIGHBOUR: 'it returns false'. Refute it at one input. -/
def topShortestWrong : ChangeSpec := { name := "topShortest", fn := fun _ => fun
  | [d1, d2] => { results := [.lit (.bool false)], args := [d1, d2] }
  | _ => none }
def TopShortestWrongFalsely : Prop := topShortestRow.holds Tryd.pinned (OpenSpec.ofChange topShortestWrong)

/-- 'mizmazetop.TopCerny': WHATEVER THE INPUT: true; the input reads as it did. -/
def topCernySpec : ChangeSpec := { name := "topCerny", fn := fun _ => fun
  | [] => { results := [.lit (.bool true)], args := [] }
  | _ => none }
def topCernyRow : OpenClaim := { program := "ytiiiinoappjhdaadoor", sum := "0662dfaa732ace388d78f1af7932fb4e0ee82599193328574c7d66a67e077540", func := "mizmaze/mizmazetop.TopCerny", spec := "topCerny", unfollowed := true, recurses := true, named := ["math/bits.deBruijn64tab"], plainKeys := false, apart := false, laid := [("math/bits.deBruijn64tab", laid_math_bits_deBruijn64tab)] }
def TopCernySaid : Prop := topCernyRow.holds Tryd.pinned (OpenSpec.ofChange topCernySpec)

/-- ITS FALSE NEIGHBOUR: 'it returns false'. Refute it at one input. -/
def topCernyWrong : ChangeSpec := { name := "topCerny", fn := fun _ => fun
  | [] => { results := [.lit (.bool false)], args := [] }
  | _ => none }
def TopCernyWrongFalsely : Prop := topCernyRow.holds Tryd.pinned (OpenSpec.ofChange topCernyWrong)

/-- 'mizmazetop.TopSmall': WHATEVER THE INPUT: true; the input reads as it did. -/
def topSmallSpec : ChangeSpec := { name := "topSmall", fn := fun _ => fun
  | [d1, d2] => { results := [.lit (.bool true)], args := [d1, d2] }
  | _ => none }
def topSmallRow : OpenClaim := { program := "ytiiiinoappjhdaadoor", sum := "0662dfaa732ace388d78f1af7932fb4e0ee82599193328574c7d66a67e077540", func := "mizmaze/mizmazetop.TopSmall", spec := "topSmall", unfollowed := true, recurses := true, named := ["math/bits.deBruijn64tab"], plainKeys := false, apart := false, laid := [("math/bits.deBruijn64tab", laid_math_bits_deBruijn64tab)] }
def TopSmallSaid : Prop := topSmallRow.holds Tryd.pinned (OpenSpec.ofChange topSmallSpec)

/-- ITS FALSE NEIGHBOUR: 'it returns false'. Refute it at one input. -/
def topSmallWrong : ChangeSpec := { name := "topSmall", fn := fun _ => fun
  | [d1, d2] => { results := [.lit (.bool false)], args := [d1, d2] }
  | _ => none }
def TopSmallWrongFalsely : Prop := topSmallRow.holds Tryd.pinned (OpenSpec.ofChange topSmallWrong)

/- THE SECOND FORM. 'bulk': how many values and letters a reading holds, each counted each time it is reached (what is shared counts as often as it is met; a slice's spare places count too). A statement '..UptoSaid' is the law's where the arguments, and the package variables that the reading takes, are together of bulk at most 1048576: NARROWER than '..Said'. Prove '..Said' where nothing that the law and all that it calls make is longer than what came in: it says more and counts as full. Else prove '..UptoSaid'. A law counts once. -/
mutual
def uptoBulk {H : Type} : DataW H → Nat
  | .lit (.string bytes) => bytes.length + 1
  | .lit _ => 1
  | .nil => 1
  | .ptr d => uptoBulk d + 1
  | .slice elems spare => uptoBulkAll elems + uptoBulkAll spare + 1
  | .agg parts => uptoBulkAll parts + 1
  | .iface _ d => uptoBulk d + 1
  | .map entries => uptoBulkEntries entries + 1
  | .held _ => 1
def uptoBulkAll {H : Type} : List (DataW H) → Nat
  | [] => 0
  | d :: r => uptoBulk d + uptoBulkAll r
def uptoBulkEntries {H : Type} : List (Lit × DataW H) → Nat
  | [] => 0
  | x :: r => uptoBulkEntry x + uptoBulkEntries r
def uptoBulkEntry {H : Type} : Lit × DataW H → Nat
  | (.string bytes, d) => bytes.length + uptoBulk d + 1
  | (_, d) => uptoBulk d + 1
 end
def uptoSmall : (H : Type) → List (DataW H) → Bool := fun _ ds => decide (uptoBulkAll ds ≤ 1048576)
def OpenSpec.upto (s : _root_.Go.ChangeSpec) : _root_.Go.OpenSpec := { _root_.Go.OpenSpec.ofChange s with cond := some uptoSmall }

/-- 'mizmazelaw04.ShortFinds', WHERE WHAT IT READS IS OF BULK AT MOST 1048576: true; the input reads as it did. -/
def shortFindsUptoRow : OpenClaim := { program := "ytiiiinoappjhdaadoor", sum := "0662dfaa732ace388d78f1af7932fb4e0ee82599193328574c7d66a67e077540", func := "mizmaze/mizmazelaw04.ShortFinds", spec := "shortFinds", unfollowed := true, recurses := true, named := ["math/bits.deBruijn64tab"], plainKeys := false, apart := false, laid := [("math/bits.deBruijn64tab", laid_math_bits_deBruijn64tab)], narrowed := true }
def ShortFindsUptoSaid : Prop := shortFindsUptoRow.holds Tryd.pinned (OpenSpec.upto shortFindsSpec)

/-- 'mizmazelaw04.ShortRanks', WHERE WHAT IT READS IS OF BULK AT MOST 1048576: true; the input reads as it did. -/
def shortRanksUptoRow : OpenClaim := { program := "ytiiiinoappjhdaadoor", sum := "0662dfaa732ace388d78f1af7932fb4e0ee82599193328574c7d66a67e077540", func := "mizmaze/mizmazelaw04.ShortRanks", spec := "shortRanks", unfollowed := true, recurses := true, named := ["math/bits.deBruijn64tab"], plainKeys := false, apart := false, laid := [("math/bits.deBruijn64tab", laid_math_bits_deBruijn64tab)], narrowed := true }
def ShortRanksUptoSaid : Prop := shortRanksUptoRow.holds Tryd.pinned (OpenSpec.upto shortRanksSpec)

/-- 'mizmazelaw04.ShortCerny', WHERE WHAT IT READS IS OF BULK AT MOST 1048576: true; the input reads as it did. -/
def shortCernyUptoRow : OpenClaim := { program := "ytiiiinoappjhdaadoor", sum := "0662dfaa732ace388d78f1af7932fb4e0ee82599193328574c7d66a67e077540", func := "mizmaze/mizmazelaw04.ShortCerny", spec := "shortCerny", unfollowed := true, recurses := true, named := ["math/bits.deBruijn64tab"], plainKeys := false, apart := false, laid := [("math/bits.deBruijn64tab", laid_math_bits_deBruijn64tab)], narrowed := true }
def ShortCernyUptoSaid : Prop := shortCernyUptoRow.holds Tryd.pinned (OpenSpec.upto shortCernySpec)

/-- 'mizmazelaw04.ShortLeast', WHERE WHAT IT READS IS OF BULK AT MOST 1048576: true; the input reads as it did. -/
def shortLeastUptoRow : OpenClaim := { program := "ytiiiinoappjhdaadoor", sum := "0662dfaa732ace388d78f1af7932fb4e0ee82599193328574c7d66a67e077540", func := "mizmaze/mizmazelaw04.ShortLeast", spec := "shortLeast", unfollowed := true, recurses := true, named := ["math/bits.deBruijn64tab"], plainKeys := false, apart := false, laid := [("math/bits.deBruijn64tab", laid_math_bits_deBruijn64tab)], narrowed := true }
def ShortLeastUptoSaid : Prop := shortLeastUptoRow.holds Tryd.pinned (OpenSpec.upto shortLeastSpec)

/-- 'mizmazelaw04.ShortSmall', WHERE WHAT IT READS IS OF BULK AT MOST 1048576: true; the input reads as it did. -/
def shortSmallUptoRow : OpenClaim := { program := "ytiiiinoappjhdaadoor", sum := "0662dfaa732ace388d78f1af7932fb4e0ee82599193328574c7d66a67e077540", func := "mizmaze/mizmazelaw04.ShortSmall", spec := "shortSmall", unfollowed := true, recurses := true, named := ["math/bits.deBruijn64tab"], plainKeys := false, apart := false, laid := [("math/bits.deBruijn64tab", laid_math_bits_deBruijn64tab)], narrowed := true }
def ShortSmallUptoSaid : Prop := shortSmallUptoRow.holds Tryd.pinned (OpenSpec.upto shortSmallSpec)

/-- 'mizmazetop.TopShortest', WHERE WHAT IT READS IS OF BULK AT MOST 1048576: true; the input reads as it did. -/
def topShortestUptoRow : OpenClaim := { program := "ytiiiinoappjhdaadoor", sum := "0662dfaa732ace388d78f1af7932fb4e0ee82599193328574c7d66a67e077540", func := "mizmaze/mizmazetop.TopShortest", spec := "topShortest", unfollowed := true, recurses := true, named := ["math/bits.deBruijn64tab"], plainKeys := false, apart := false, laid := [("math/bits.deBruijn64tab", laid_math_bits_deBruijn64tab)], narrowed := true }
def TopShortestUptoSaid : Prop := topShortestUptoRow.holds Tryd.pinned (OpenSpec.upto topShortestSpec)

/-- 'mizmazetop.TopCerny', WHERE WHAT IT READS IS OF BULK AT MOST 1048576: true; the input reads as it did. -/
def topCernyUptoRow : OpenClaim := { program := "ytiiiinoappjhdaadoor", sum := "0662dfaa732ace388d78f1af7932fb4e0ee82599193328574c7d66a67e077540", func := "mizmaze/mizmazetop.TopCerny", spec := "topCerny", unfollowed := true, recurses := true, named := ["math/bits.deBruijn64tab"], plainKeys := false, apart := false, laid := [("math/bits.deBruijn64tab", laid_math_bits_deBruijn64tab)], narrowed := true }
def TopCernyUptoSaid : Prop := topCernyUptoRow.holds Tryd.pinned (OpenSpec.upto topCernySpec)

/-- 'mizmazetop.TopSmall', WHERE WHAT IT READS IS OF BULK AT MOST 1048576: true; the input reads as it did. -/
def topSmallUptoRow : OpenClaim := { program := "ytiiiinoappjhdaadoor", sum := "0662dfaa732ace388d78f1af7932fb4e0ee82599193328574c7d66a67e077540", func := "mizmaze/mizmazetop.TopSmall", spec := "topSmall", unfollowed := true, recurses := true, named := ["math/bits.deBruijn64tab"], plainKeys := false, apart := false, laid := [("math/bits.deBruijn64tab", laid_math_bits_deBruijn64tab)], narrowed := true }
def TopSmallUptoSaid : Prop := topSmallUptoRow.holds Tryd.pinned (OpenSpec.upto topSmallSpec)

end Rows
end Go.Proofs.YtiiiinoappjhdaaDoor
