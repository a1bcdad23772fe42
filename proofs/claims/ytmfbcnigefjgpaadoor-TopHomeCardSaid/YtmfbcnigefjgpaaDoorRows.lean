/-
  NARROWER THAN 'FOR EVERY INPUT', by the rows' own cells (each row's printed sentence says how): ResetMerges: laid · ResetFinds: laid · ResetClosed: laid · ResetMore: laid · ResetMerged: laid · TopHome: laid.
  DERIVED. THE GIVEN ROWS OF THIS SEAT. 6 by the template 'for every input the law returns true; each argument reads behind the call as it read before'; 0 by the template 'total and deterministic' (their statements: YtmfbcnigefjgpaaDoorTotals.lean).
  GIVEN WITH THE SEED: the statements are not yours to turn. If you find one false, say at which input.
  Laid BY PROGRAM, IN A SANDBOX (cutbox-rows.mjs): the forced cells as the released guide's own fill.sh prints them over the translation bf431e8e8d24d1dd… (all of the seat's roots in one cut). By AI agents, Wed Nov 11 2026. No macro, syntax, notation, axiom, sorry.
-/
import Derived.Test.YtmfbcnigefjgpaaDoorChecked
import GoSem.Claim
import GoSem.ClaimJoined
import GoSem.ClaimMapViews
import Derived.JoinedTies
import Derived.KernelRfl
namespace Go.Proofs.YtmfbcnigefjgpaaDoor
/- THE CELL 'sum', in the pinned program and in every row, IS THE sha256 OF THE DUMP (.gsa) THAT YtmfbcnigefjgpaaDoorProg.lean LOADS. Nothing in Lean hashes anything: it is a label: what it is worth is what the hold of that sum in a sandbox is worth. -/
noncomputable def Tryd.pinned : Pinned := { name := "ytmfbcnigefjgpaadoor", sum := "bf431e8e8d24d1ddbcbf1bae19a887c36da5475a5fde5ae0e946c2e87aa53de3", checked := Tryd.checked }
namespace Rows
def none {H : Type} : Left H := { results := [], args := [] }

/- WHAT THE LISTED PACKAGE-LEVEL VARIABLES READ AS WHEN THE CALL BEGINS. Each datum BY PROGRAM (the guide's laid-datum.mjs) off the statement by which the dump's own 'gosem.cut.vars' lays the variable. In a bare row this is a premise. The card (YtmfbcnigefjgpaaDoorCards.lean) ties it to the program's text. -/
def laid_math_bits_deBruijn64tab {H : Type} : DataW H := .agg [.lit (.int .u8 0), .lit (.int .u8 1), .lit (.int .u8 56), .lit (.int .u8 2), .lit (.int .u8 57), .lit (.int .u8 49), .lit (.int .u8 28), .lit (.int .u8 3), .lit (.int .u8 61), .lit (.int .u8 58), .lit (.int .u8 42), .lit (.int .u8 50), .lit (.int .u8 38), .lit (.int .u8 29), .lit (.int .u8 17), .lit (.int .u8 4), .lit (.int .u8 62), .lit (.int .u8 47), .lit (.int .u8 59), .lit (.int .u8 36), .lit (.int .u8 45), .lit (.int .u8 43), .lit (.int .u8 51), .lit (.int .u8 22), .lit (.int .u8 53), .lit (.int .u8 39), .lit (.int .u8 33), .lit (.int .u8 30), .lit (.int .u8 24), .lit (.int .u8 18), .lit (.int .u8 12), .lit (.int .u8 5), .lit (.int .u8 63), .lit (.int .u8 55), .lit (.int .u8 48), .lit (.int .u8 27), .lit (.int .u8 60), .lit (.int .u8 41), .lit (.int .u8 37), .lit (.int .u8 16), .lit (.int .u8 46), .lit (.int .u8 35), .lit (.int .u8 44), .lit (.int .u8 21), .lit (.int .u8 52), .lit (.int .u8 32), .lit (.int .u8 23), .lit (.int .u8 11), .lit (.int .u8 54), .lit (.int .u8 26), .lit (.int .u8 40), .lit (.int .u8 15), .lit (.int .u8 34), .lit (.int .u8 20), .lit (.int .u8 31), .lit (.int .u8 10), .lit (.int .u8 25), .lit (.int .u8 14), .lit (.int .u8 19), .lit (.int .u8 9), .lit (.int .u8 13), .lit (.int .u8 8), .lit (.int .u8 7), .lit (.int .u8 6)]

/-- 'mizmazelaw03.ResetMerges': WHATEVER THE INPUT: true; the input reads as it did. -/
def resetMergesSpec : ChangeSpec := { name := "resetMerges", fn := fun _ => fun
  | [d1, d2, d3] => { results := [.lit (.bool true)], args := [d1, d2, d3] }
  | _ => none }
def resetMergesRow : OpenClaim := { program := "ytmfbcnigefjgpaadoor", sum := "bf431e8e8d24d1ddbcbf1bae19a887c36da5475a5fde5ae0e946c2e87aa53de3", func := "mizmaze/mizmazelaw03.ResetMerges", spec := "resetMerges", unfollowed := true, recurses := true, named := ["math/bits.deBruijn64tab"], plainKeys := false, apart := false, laid := [("math/bits.deBruijn64tab", laid_math_bits_deBruijn64tab)] }
def ResetMergesSaid : Prop := resetMergesRow.holds Tryd.pinned (OpenSpec.ofChange resetMergesSpec)

/-- ITS FALSE NEIGHBOUR: 'it returns false'. Refute it at one input. -/
def resetMergesWrong : ChangeSpec := { name := "resetMerges", fn := fun _ => fun
  | [d1, d2, d3] => { results := [.lit (.bool false)], args := [d1, d2, d3] }
  | _ => none }
def ResetMergesWrongFalsely : Prop := resetMergesRow.holds Tryd.pinned (OpenSpec.ofChange resetMergesWrong)

/-- 'mizmazelaw03.ResetFinds': WHATEVER THE INPUT: true; the input reads as it did. -/
def resetFindsSpec : ChangeSpec := { name := "resetFinds", fn := fun _ => fun
  | [d] => { results := [.lit (.bool true)], args := [d] }
  | _ => none }
def resetFindsRow : OpenClaim := { program := "ytmfbcnigefjgpaadoor", sum := "bf431e8e8d24d1ddbcbf1bae19a887c36da5475a5fde5ae0e946c2e87aa53de3", func := "mizmaze/mizmazelaw03.ResetFinds", spec := "resetFinds", unfollowed := true, recurses := true, named := ["math/bits.deBruijn64tab"], plainKeys := false, apart := false, laid := [("math/bits.deBruijn64tab", laid_math_bits_deBruijn64tab)] }
def ResetFindsSaid : Prop := resetFindsRow.holds Tryd.pinned (OpenSpec.ofChange resetFindsSpec)

/-- ITS FALSE NEIGHBOUR: 'it returns false'. Refute it at one input. -/
def resetFindsWrong : ChangeSpec := { name := "resetFinds", fn := fun _ => fun
  | [d] => { results := [.lit (.bool false)], args := [d] }
  | _ => none }
def ResetFindsWrongFalsely : Prop := resetFindsRow.holds Tryd.pinned (OpenSpec.ofChange resetFindsWrong)

/-- 'mizmazelaw03.ResetClosed': WHATEVER THE INPUT: true; the input reads as it did. -/
def resetClosedSpec : ChangeSpec := { name := "resetClosed", fn := fun _ => fun
  | [d1, d2, d3] => { results := [.lit (.bool true)], args := [d1, d2, d3] }
  | _ => none }
def resetClosedRow : OpenClaim := { program := "ytmfbcnigefjgpaadoor", sum := "bf431e8e8d24d1ddbcbf1bae19a887c36da5475a5fde5ae0e946c2e87aa53de3", func := "mizmaze/mizmazelaw03.ResetClosed", spec := "resetClosed", unfollowed := true, recurses := true, named := ["math/bits.deBruijn64tab"], plainKeys := false, apart := false, laid := [("math/bits.deBruijn64tab", laid_math_bits_deBruijn64tab)] }
def ResetClosedSaid : Prop := resetClosedRow.holds Tryd.pinned (OpenSpec.ofChange resetClosedSpec)

/-- ITS FALSE NEIGHBOUR: 'it returns false'. Refute it at one input. -/
def resetClosedWrong : ChangeSpec := { name := "resetClosed", fn := fun _ => fun
  | [d1, d2, d3] => { results := [.lit (.bool false)], args := [d1, d2, d3] }
  | _ => none }
def ResetClosedWrongFalsely : Prop := resetClosedRow.holds Tryd.pinned (OpenSpec.ofChange resetClosedWrong)

/-- 'mizmazelaw03.ResetMore': WHATEVER THE INPUT: true; the input reads as it did. -/
def resetMoreSpec : ChangeSpec := { name := "resetMore", fn := fun _ => fun
  | [d1, d2, d3] => { results := [.lit (.bool true)], args := [d1, d2, d3] }
  | _ => none }
def resetMoreRow : OpenClaim := { program := "ytmfbcnigefjgpaadoor", sum := "bf431e8e8d24d1ddbcbf1bae19a887c36da5475a5fde5ae0e946c2e87aa53de3", func := "mizmaze/mizmazelaw03.ResetMore", spec := "resetMore", unfollowed := true, recurses := true, named := ["math/bits.deBruijn64tab"], plainKeys := false, apart := false, laid := [("math/bits.deBruijn64tab", laid_math_bits_deBruijn64tab)] }
def ResetMoreSaid : Prop := resetMoreRow.holds Tryd.pinned (OpenSpec.ofChange resetMoreSpec)

/-- ITS FALSE NEIGHBOUR: 'it returns false'. Refute it at one input. -/
def resetMoreWrong : ChangeSpec := { name := "resetMore", fn := fun _ => fun
  | [d1, d2, d3] => { results := [.lit (.bool false)], args := [d1, d2, d3] }
  | _ => none }
def ResetMoreWrongFalsely : Prop := resetMoreRow.holds Tryd.pinned (OpenSpec.ofChange resetMoreWrong)

/-- 'mizmazelaw03.ResetMerged': WHATEVER THE INPUT: true; the input reads as it did. -/
def resetMergedSpec : ChangeSpec := { name := "resetMerged", fn := fun _ => fun
  | [d1, d2, d3, d4] => { results := [.lit (.bool true)], args := [d1, d2, d3, d4] }
  | _ => none }
def resetMergedRow : OpenClaim := { program := "ytmfbcnigefjgpaadoor", sum := "bf431e8e8d24d1ddbcbf1bae19a887c36da5475a5fde5ae0e946c2e87aa53de3", func := "mizmaze/mizmazelaw03.ResetMerged", spec := "resetMerged", unfollowed := true, recurses := true, named := ["math/bits.deBruijn64tab"], plainKeys := false, apart := false, laid := [("math/bits.deBruijn64tab", laid_math_bits_deBruijn64tab)] }
def ResetMergedSaid : Prop := resetMergedRow.holds Tryd.pinned (OpenSpec.ofChange resetMergedSpec)

/-- ITS FALSE NEIGHBOUR: 'it returns false'. Refute it at one input. -/
def resetMergedWrong : ChangeSpec := { name := "resetMerged", fn := fun _ => fun
  | [d1, d2, d3, d4] => { results := [.lit (.bool false)], args := [d1, d2, d3, d4] }
  | _ => none }
def ResetMergedWrongFalsely : Prop := resetMergedRow.holds Tryd.pinned (OpenSpec.ofChange resetMergedWrong)

/-- 'mizmazetop.TopHome': WHATEVER THE INPUT: true; the input reads as it did. -/
def topHomeSpec : ChangeSpec := { name := "topHome", fn := fun _ => fun
  | [d1, d2, d3] => { results := [.lit (.bool true)], args := [d1, d2, d3] }
  | _ => none }
def topHomeRow : OpenClaim := { program := "ytmfbcnigefjgpaadoor", sum := "bf431e8e8d24d1ddbcbf1bae19a887c36da5475a5fde5ae0e946c2e87aa53de3", func := "mizmaze/mizmazetop.TopHome", spec := "topHome", unfollowed := true, recurses := true, named := ["math/bits.deBruijn64tab"], plainKeys := false, apart := false, laid := [("math/bits.deBruijn64tab", laid_math_bits_deBruijn64tab)] }
def TopHomeSaid : Prop := topHomeRow.holds Tryd.pinned (OpenSpec.ofChange topHomeSpec)

/-- ITS FALSE NEIGHBOUR: 'it returns false'. Refute it at one input. -/
def topHomeWrong : ChangeSpec := { name := "topHome", fn := fun _ => fun
  | [d1, d2, d3] => { results := [.lit (.bool false)], args := [d1, d2, d3] }
  | _ => none }
def TopHomeWrongFalsely : Prop := topHomeRow.holds Tryd.pinned (OpenSpec.ofChange topHomeWrong)

/- THE SECOND FORM. 'bulk': how many values and letters a reading holds, each counted each time it is reached (what is shared counts as often as it is met; a slice's spare places count too). A statement '..UptoSaid' is the law's where the arguments, and the package variables that the reading takes, are together of bulk at most 1048576: NARROWER than '..Said'. Prove '..Said' where nothing that the law and all that it calls make is longer than what came in: it says more and counts as full. Else prove '..UptoSaid'. A law counts once. -/
mutual
def uptoBulk {H : Type} : DataW H → Nat
  | .lit (.string bytes) => bytes.length + 1
  | .lit _ => 1
  | .nil => 1
  | .ptr d => uptoBulk d + 1
  | .slice elems spare => uptoBulkAll elems + uptoBulkAll spare + 1
  | .agg parts => uptoBulkAll parts + 1
  | .iface _ d => uptoBulk d + 1
  | .map entries => uptoBulkEntries entries + 1
  | .held _ => 1
def uptoBulkAll {H : Type} : List (DataW H) → Nat
  | [] => 0
  | d :: r => uptoBulk d + uptoBulkAll r
def uptoBulkEntries {H : Type} : List (Lit × DataW H) → Nat
  | [] => 0
  | x :: r => uptoBulkEntry x + uptoBulkEntries r
def uptoBulkEntry {H : Type} : Lit × DataW H → Nat
  | (.string bytes, d) => bytes.length + uptoBulk d + 1
  | (_, d) => uptoBulk d + 1
 end
def uptoSmall : (H : Type) → List (DataW H) → Bool := fun _ ds => decide (uptoBulkAll ds ≤ 1048576)
def OpenSpec.upto (s : _root_.Go.ChangeSpec) : _root_.Go.OpenSpec := { _root_.Go.OpenSpec.ofChange s with cond := some uptoSmall }

/-- 'mizmazelaw03.ResetMerges', WHERE WHAT IT READS IS OF BULK AT MOST 1048576: true; the input reads as it did. -/
def resetMergesUptoRow : OpenClaim := { program := "ytmfbcnigefjgpaadoor", sum := "bf431e8e8d24d1ddbcbf1bae19a887c36da5475a5fde5ae0e946c2e87aa53de3", func := "mizmaze/mizmazelaw03.ResetMerges", spec := "resetMerges", unfollowed := true, recurses := true, named := ["math/bits.deBruijn64tab"], plainKeys := false, apart := false, laid := [("math/bits.deBruijn64tab", laid_math_bits_deBruijn64tab)], narrowed := true }
def ResetMergesUptoSaid : Prop := resetMergesUptoRow.holds Tryd.pinned (OpenSpec.upto resetMergesSpec)

/-- 'mizmazelaw03.ResetFinds', WHERE WHAT IT READS IS OF BULK AT MOST 1048576: true; the input reads as it did. -/
def resetFindsUptoRow : OpenClaim := { program := "ytmfbcnigefjgpaadoor", sum := "bf431e8e8d24d1ddbcbf1bae19a887c36da5475a5fde5ae0e946c2e87aa53de3", func := "mizmaze/mizmazelaw03.ResetFinds", spec := "resetFinds", unfollowed := true, recurses := true, named := ["math/bits.deBruijn64tab"], plainKeys := false, apart := false, laid := [("math/bits.deBruijn64tab", laid_math_bits_deBruijn64tab)], narrowed := true }
def ResetFindsUptoSaid : Prop := resetFindsUptoRow.holds Tryd.pinned (OpenSpec.upto resetFindsSpec)

/-- 'mizmazelaw03.ResetClosed', WHERE WHAT IT READS IS OF BULK AT MOST 1048576: true; the input reads as it did. -/
def resetClosedUptoRow : OpenClaim := { program := "ytmfbcnigefjgpaadoor", sum := "bf431e8e8d24d1ddbcbf1bae19a887c36da5475a5fde5ae0e946c2e87aa53de3", func := "mizmaze/mizmazelaw03.ResetClosed", spec := "resetClosed", unfollowed := true, recurses := true, named := ["math/bits.deBruijn64tab"], plainKeys := false, apart := false, laid := [("math/bits.deBruijn64tab", laid_math_bits_deBruijn64tab)], narrowed := true }
def ResetClosedUptoSaid : Prop := resetClosedUptoRow.holds Tryd.pinned (OpenSpec.upto resetClosedSpec)

/-- 'mizmazelaw03.ResetMore', WHERE WHAT IT READS IS OF BULK AT MOST 1048576: true; the input reads as it did. -/
def resetMoreUptoRow : OpenClaim := { program := "ytmfbcnigefjgpaadoor", sum := "bf431e8e8d24d1ddbcbf1bae19a887c36da5475a5fde5ae0e946c2e87aa53de3", func := "mizmaze/mizmazelaw03.ResetMore", spec := "resetMore", unfollowed := true, recurses := true, named := ["math/bits.deBruijn64tab"], plainKeys := false, apart := false, laid := [("math/bits.deBruijn64tab", laid_math_bits_deBruijn64tab)], narrowed := true }
def ResetMoreUptoSaid : Prop := resetMoreUptoRow.holds Tryd.pinned (OpenSpec.upto resetMoreSpec)

/-- 'mizmazelaw03.ResetMerged', WHERE WHAT IT READS IS OF BULK AT MOST 1048576: true; the input reads as it did. -/
def resetMergedUptoRow : OpenClaim := { program := "ytmfbcnigefjgpaadoor", sum := "bf431e8e8d24d1ddbcbf1bae19a887c36da5475a5fde5ae0e946c2e87aa53de3", func := "mizmaze/mizmazelaw03.ResetMerged", spec := "resetMerged", unfollowed := true, recurses := true, named := ["math/bits.deBruijn64tab"], plainKeys := false, apart := false, laid := [("math/bits.deBruijn64tab", laid_math_bits_deBruijn64tab)], narrowed := true }
def ResetMergedUptoSaid : Prop := resetMergedUptoRow.holds Tryd.pinned (OpenSpec.upto resetMergedSpec)

/-- 'mizmazetop.TopHome', WHERE WHAT IT READS IS OF BULK AT MOST 1048576: true; the input reads as it did. -/
def topHomeUptoRow : OpenClaim := { program := "ytmfbcnigefjgpaadoor", sum := "bf431e8e8d24d1ddbcbf1bae19a887c36da5475a5fde5ae0e946c2e87aa53de3", func := "mizmaze/mizmazetop.TopHome", spec := "topHome", unfollowed := true, recurses := true, named := ["math/bits.deBruijn64tab"], plainKeys := false, apart := false, laid := [("math/bits.deBruijn64tab", laid_math_bits_deBruijn64tab)], narrowed := true }
def TopHomeUptoSaid : Prop := topHomeUptoRow.holds Tryd.pinned (OpenSpec.upto topHomeSpec)

end Rows
end Go.Proofs.YtmfbcnigefjgpaaDoor
