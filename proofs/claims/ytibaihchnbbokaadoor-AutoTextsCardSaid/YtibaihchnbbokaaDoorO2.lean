/-
  Arguments, opened: lists of lists of numbers, none of whose nil rows has room.
-/
import Derived.Test.YtibaihchnbbokaaDoorO1
import Derived.Test.YtibaihchnbbokaaDoorW
namespace Go.Proofs.YtibaihchnbbokaaDoor
open Go.RowKit Go.Deep Go.ChangeShapes Go.WideShapes

/-- A slice of slices of ints, where a nil row has no room. -/
def RowsN (w : World) (v : Value) (m : List (List Int)) : Prop :=
  ∃ A cap, v = .slice A m.length cap ∧ m.length ≤ big ∧ ∀ i, i < m.length → ∃ b off Ar c, A = some ⟨b, off, none⟩ ∧ w.cell? ⟨b, off + i, none⟩ = some (.slice Ar (m.getD i []).length c) ∧ Ints w (.slice Ar (m.getD i []).length c) (m.getD i []) ∧ (Ar = none → c = 0)

theorem RowsN.rows {w : World} {v : Value} {m : List (List Int)} (h : RowsN w v m) : Rows w v m := by
  obtain ⟨A, cap, hv, hl, hc⟩ := h
  refine ⟨A, cap, hv, hl, fun i hi => ?_⟩
  obtain ⟨b, off, Ar, c, hA, hcell, hr, _⟩ := hc i hi
  exact ⟨b, off, _, hA, hcell, hr⟩

theorem RowsN.below {w w' : World} {v : Value} {m : List (List Int)} (h : RowsN w v m) (hb : Below w.heap.size w w') : RowsN w' v m := by
  obtain ⟨A, cap, hv, hl, hc⟩ := h
  refine ⟨A, cap, hv, hl, fun i hi => ?_⟩
  obtain ⟨b, off, Ar, c, hA, hcell, hr, hn⟩ := hc i hi
  exact ⟨b, off, Ar, c, hA, (hb.cell (p := ⟨b, off + i, none⟩) (World.block_lt_of_cell? _ _ hcell)).trans hcell, hr.below hb, hn⟩

section
variable {H : Type} {enc : TypeId × Value → H} {W : World} {base : Nat}

theorem rowsN_of_trod {fuel : Nat} {c : Value} {x : DataW H × List MemPlace} (h : DataW.trod enc Tryd.prog W base (fun _ => true) true fuel 22 [c] = some x) (hw : ∀ n ∈ x.1.weights Tryd.prog 22, n ≤ reachBytes) : ∃ m, RowsN W c m := by
  rcases open_int_rows Tryd.underlying22 Tryd.underlying25 Tryd.underlying3 cells_row cells_int h with ⟨hc, _⟩ | ⟨a, len, cap, A, L, C, Z, hc, _, hl, _, rfl, hr⟩
  · obtain rfl : c = .slice none 0 0 := by simpa using hc
    exact ⟨[], none, 0, rfl, by simp, fun i hi => by simp at hi⟩
  · obtain rfl : c = .slice (some a) len cap := by simpa using hc
    have hlen : ((List.range len).map fun r => (Z r).take (L r)).length = len := by simp
    have hout := hw ((len + (cap - len)) * Tryd.prog.bytesOf 25) (by simp [DataW.weights, Tryd.underlying22])
    rw [bytes_row] at hout
    have hrow : ∀ r, r < len → C r ≤ big := by
      intro r hr'
      obtain ⟨_, hLC, _, hz, _, hn, _⟩ := hr r (by omega)
      cases hA : A r with
      | none => rw [hn hA]; exact Nat.zero_le _
      | some a' =>
        have hm : (intRow .i64 (A r) (L r) (Z r) : DataW H) ∈ (List.range len).map fun r => (intRow .i64 (A r) (L r) (Z r) : DataW H) := List.mem_map.2 ⟨r, by simpa using hr', rfl⟩
        have hb := hw ((List.length (lits .i64 ((Z r).take (L r)) : List (DataW H)) + List.length (lits .i64 ((Z r).drop (L r)) : List (DataW H))) * Tryd.prog.bytesOf 3) (by
          rw [DataW.weights, Tryd.underlying22]
          refine List.mem_cons_of_mem _ (List.mem_append_left _ (weightsAll_mem hm _ ?_))
          simp [intRow, hA, DataW.weights, Tryd.underlying25])
        rw [bytes_int] at hb
        simp only [lits, List.length_map, List.length_take, List.length_drop] at hb
        exact reach_big (by omega)
    refine ⟨(List.range len).map fun r => (Z r).take (L r), some a, cap, by rw [hlen], by rw [hlen]; unfold reachBytes at hout; unfold big; omega, fun i hi => ?_⟩
    rw [hlen] at hi
    obtain ⟨hcell, hLC, _, hz, _, hn, hcc⟩ := hr i (by omega)
    have h2 := add_spot hcell
    have h00 := add_spot (hr 0 (by omega)).1
    simp only [Addr.add, if_true, Nat.add_zero] at h00
    have e1 : ((List.range len).map fun r => (Z r).take (L r)).getD i [] = (Z i).take (L i) := by simp [List.getD_eq_getElem?_getD, hi]
    have e2 : ((Z i).take (L i)).length = L i := by simp; omega
    refine ⟨a.block, a.off, A i, C i, by rw [h00], by rw [h2] at hcell; rw [e1, e2]; exact hcell, ?_, hn⟩
    rw [e1, e2]
    exact row_ints hLC hz hn (fun a' ha c hc' => (hcc a' ha).2 c hc') (hrow i hi)

set_option maxRecDepth 100000 in
/-- A list of lists of numbers that came in. -/
theorem lists_of {W : World} {base : Nat} {v : Value} {d : DataW H} {p : List MemPlace} (hv : Value.okWide Tryd.prog W .any base 22 v) (h : DataW.Trod enc Tryd.prog W 0 (fun _ => true) true 22 v d p)
    (hw : ∀ n ∈ d.weights Tryd.prog 22, n ≤ reachBytes) : ∃ l, RowsN W v l := by
  obtain ⟨a, len, cap, rfl⟩ := okWide_slice Tryd.underlying22 hv
  obtain ⟨fuel, hf⟩ := h
  exact rowsN_of_trod hf hw
end
end Go.Proofs.YtibaihchnbbokaaDoor
