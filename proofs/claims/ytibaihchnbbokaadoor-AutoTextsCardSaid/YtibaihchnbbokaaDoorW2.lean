/-
  The two errors that the library lays, out of the list.
-/
import Derived.Test.YtibaihchnbbokaaDoorW
import Derived.Test.YtibaihchnbbokaaDoorP9
import Derived.Stop.LaidErr
namespace Go.Proofs.YtibaihchnbbokaaDoor
open Go.ChangeShapes Go.WideShapes Go.ChangeAt Go.RowKit

theorem gER : Tryd.prog.globalNamed "strconv.ErrRange" = some 2 := by kernel_rfl
theorem gERT : (Tryd.prog.globals[2]?).map (·.type) = some 87 := by kernel_rfl
theorem gES : Tryd.prog.globalNamed "strconv.ErrSyntax" = some 1 := by kernel_rfl
theorem gEST : (Tryd.prog.globals[1]?).map (·.type) = some 87 := by kernel_rfl
theorem cells_es : Tryd.prog.cellsOf 159 = 1 := by kernel_rfl
theorem cells_str : Tryd.prog.cellsOf 9 = 1 := by kernel_rfl
theorem es_star : "*" ++ "errors.errorString" = "*errors.errorString" := by decide
theorem es_row (u : TypeId) (h : Tryd.prog.typeName? 3 u = some "*errors.errorString") : u = 157 :=
  typeName_ptr_named (nm := "errors.errorString") (by rw [es_star]; kernel_rfl) (by kernel_rfl) (by decide) u (by rw [es_star]; exact h)

theorem errs_of {W : World} (h : laidMetH Tryd.prog Rows.autoRunsRow.laid W) : Errs W := by
  have h1 : laidMet Tryd.prog Rows.autoRunsRow.laid W := h
  have h5 : laidMet Tryd.prog (("strconv.ErrRange", .iface "*errors.errorString" (.ptr (.agg [.lit (.string [118, 97, 108, 117, 101, 32, 111, 117, 116, 32, 111, 102, 32, 114, 97, 110, 103, 101])]))) :: Rows.autoRunsRow.laid.drop 5) W := laidMet_tail (laidMet_tail (laidMet_tail (laidMet_tail h1)))
  have h6 : laidMet Tryd.prog (("strconv.ErrSyntax", .iface "*errors.errorString" (.ptr (.agg [.lit (.string [105, 110, 118, 97, 108, 105, 100, 32, 115, 121, 110, 116, 97, 120])]))) :: Rows.autoRunsRow.laid.drop 6) W := laidMet_tail h5
  obtain ⟨a1, s1, hv1, -, -, -⟩ := laid_sentinel h5 gER gERT Tryd.underlying87 es_row Tryd.underlying157 Tryd.underlying159 rfl rfl Tryd.underlying9 cells_es cells_str
  obtain ⟨a0, s0, hv0, -, -, -⟩ := laid_sentinel h6 gES gEST Tryd.underlying87 es_row Tryd.underlying157 Tryd.underlying159 rfl rfl Tryd.underlying9 cells_es cells_str
  have c0 := World.var?_cell gES hv0 0
  have c1 := World.var?_cell gER hv1 0
  exact ⟨_, _, _, _, by simpa using c0, by simpa using c1⟩
end Go.Proofs.YtibaihchnbbokaaDoor
