/-
  Arguments, opened: slices of numbers, slices of these, automata.
-/
import Derived.Test.YtibaihchnbbokaaDoorRep
import Derived.Deep.Matrix
import Derived.Lib.LaidU8
import Derived.SizedLaws
import Derived.Carry
namespace Go.Proofs.YtibaihchnbbokaaDoor
open Go.RowKit Go.Deep Go.ChangeShapes Go.WideShapes

section
variable {H : Type} {enc : TypeId × Value → H} {W : World} {base : Nat}

theorem weightsAll_mem {P : Program} {e : TypeId} : ∀ {l : List (DataW H)} {d : DataW H}, d ∈ l → ∀ n ∈ d.weights P e, n ∈ DataW.weightsAll P e l
  | [], _, h => by cases h
  | x :: r, d, h => by
    intro n hn
    rw [DataW.weightsAll, List.mem_append]
    rcases List.mem_cons.1 h with rfl | h'
    · exact .inl hn
    · exact .inr (weightsAll_mem h' n hn)

theorem bytes_int : Tryd.prog.bytesOf 3 = 8 := by kernel_rfl
theorem bytes_row : Tryd.prog.bytesOf 25 = 24 := by kernel_rfl
theorem cells_int : Tryd.prog.cellsOf 3 = 1 := by kernel_rfl
theorem cells_row : Tryd.prog.cellsOf 25 = 1 := by kernel_rfl
theorem cells_auto : Tryd.prog.cellsOf 24 = 1 := by kernel_rfl
theorem reach_big {n : Nat} (h : n * 8 ≤ reachBytes) : n ≤ big := by unfold reachBytes at h; unfold big; omega

theorem add_spot {a : Addr} {i : Nat} {v : Value} (h : W.cell? (a.add i) = some v) : a.add i = ⟨a.block, a.off + i, none⟩ := by
  by_cases h0 : i = 0
  · subst h0
    simp only [Addr.add, if_true] at h ⊢
    obtain ⟨b, o, sp⟩ := a
    obtain rfl := cell_spot h
    rfl
  · simp [Addr.add, h0]

theorem row_ints {A : Option Addr} {L C : Nat} {zs : List Int} (hl : L ≤ C) (hz : zs.length = C) (hn : A = none → C = 0) (hc : ∀ a, A = some a → ∀ c, c < C → W.cell? (a.add c) = some (.int .i64 (zs.getD c 0))) (hb : C ≤ big) : Ints W (.slice A L C) (zs.take L) := by
  have hll : (zs.take L).length = L := by simp; omega
  refine ⟨A, C, by rw [hll], by omega, fun i hi => ?_⟩
  rw [hll] at hi
  cases A with
  | none => have := hn rfl; omega
  | some a =>
    have h1 := hc a rfl i (by omega)
    have h2 := add_spot h1
    refine ⟨a.block, a.off, ?_, ?_⟩
    · have h0 := add_spot (hc a rfl 0 (by omega))
      simp only [Addr.add, if_true, Nat.add_zero] at h0
      rw [h0]
    · rw [h2] at h1
      rw [h1]
      congr 2
      simp [List.getD_eq_getElem?_getD, List.getElem?_take, hi]

theorem ints_of_trod {fuel : Nat} {c : Value} {x : DataW H × List MemPlace} (h : DataW.trod enc Tryd.prog W base (fun _ => true) true fuel 25 [c] = some x) (hw : ∀ n ∈ x.1.weights Tryd.prog 25, n ≤ reachBytes) : ∃ l, Ints W c l := by
  rcases open_ints Tryd.underlying25 Tryd.underlying3 cells_int h with ⟨hc, _⟩ | ⟨a, len, cap, zs, hc, _, hl, _, hz, rfl, hcell, _⟩
  · obtain rfl : c = .slice none 0 0 := by simpa using hc
    exact ⟨[], none, 0, rfl, by simp, fun i hi => by simp at hi⟩
  · obtain rfl : c = .slice (some a) len cap := by simpa using hc
    simp only [if_true] at hz
    have hb := hw ((List.length (lits .i64 (zs.take len) : List (DataW H)) + List.length (lits .i64 (zs.drop len) : List (DataW H))) * Tryd.prog.bytesOf 3) (by simp [DataW.weights, Tryd.underlying25])
    rw [bytes_int] at hb
    simp only [lits, List.length_map, List.length_take, List.length_drop] at hb
    refine ⟨zs.take len, row_ints hl hz (fun h => by cases h) (fun a' ha c hc' => ?_) (reach_big (by omega))⟩
    cases ha
    exact hcell c (by omega)

theorem rows_of_trod {fuel : Nat} {c : Value} {x : DataW H × List MemPlace} (h : DataW.trod enc Tryd.prog W base (fun _ => true) true fuel 22 [c] = some x) (hw : ∀ n ∈ x.1.weights Tryd.prog 22, n ≤ reachBytes) : ∃ m, Rows W c m := by
  rcases open_int_rows Tryd.underlying22 Tryd.underlying25 Tryd.underlying3 cells_row cells_int h with ⟨hc, _⟩ | ⟨a, len, cap, A, L, C, Z, hc, _, hl, _, rfl, hr⟩
  · obtain rfl : c = .slice none 0 0 := by simpa using hc
    exact ⟨[], none, 0, rfl, by simp, fun i hi => by simp at hi⟩
  · obtain rfl : c = .slice (some a) len cap := by simpa using hc
    have hlen : ((List.range len).map fun r => (Z r).take (L r)).length = len := by simp
    have hout := hw ((len + (cap - len)) * Tryd.prog.bytesOf 25) (by simp [DataW.weights, Tryd.underlying22])
    rw [bytes_row] at hout
    have hrow : ∀ r, r < len → C r ≤ big := by
      intro r hr'
      obtain ⟨_, hLC, _, hz, _, hn, _⟩ := hr r (by omega)
      cases hA : A r with
      | none => rw [hn hA]; exact Nat.zero_le _
      | some a' =>
        have hm : (intRow .i64 (A r) (L r) (Z r) : DataW H) ∈ (List.range len).map fun r => (intRow .i64 (A r) (L r) (Z r) : DataW H) := List.mem_map.2 ⟨r, by simpa using hr', rfl⟩
        have hb := hw ((List.length (lits .i64 ((Z r).take (L r)) : List (DataW H)) + List.length (lits .i64 ((Z r).drop (L r)) : List (DataW H))) * Tryd.prog.bytesOf 3) (by
          rw [DataW.weights, Tryd.underlying22]
          refine List.mem_cons_of_mem _ (List.mem_append_left _ (weightsAll_mem hm _ ?_))
          simp [intRow, hA, DataW.weights, Tryd.underlying25])
        rw [bytes_int] at hb
        simp only [lits, List.length_map, List.length_take, List.length_drop] at hb
        exact reach_big (by omega)
    refine ⟨(List.range len).map fun r => (Z r).take (L r), some a, cap, by rw [hlen], by rw [hlen]; unfold reachBytes at hout; unfold big; omega, fun i hi => ?_⟩
    rw [hlen] at hi
    obtain ⟨hcell, hLC, _, hz, _, hn, hcc⟩ := hr i (by omega)
    have h2 := add_spot hcell
    have h00 := add_spot (hr 0 (by omega)).1
    simp only [Addr.add, if_true, Nat.add_zero] at h00
    refine ⟨a.block, a.off, .slice (A i) (L i) (C i), by rw [h00], by rw [h2] at hcell; exact hcell, ?_⟩
    have e1 : ((List.range len).map fun r => (Z r).take (L r)).getD i [] = (Z i).take (L i) := by simp [List.getD_eq_getElem?_getD, hi]
    rw [e1]
    exact row_ints hLC hz hn (fun a' ha c hc' => (hcc a' ha).2 c hc') (hrow i hi)
end
end Go.Proofs.YtibaihchnbbokaaDoor
