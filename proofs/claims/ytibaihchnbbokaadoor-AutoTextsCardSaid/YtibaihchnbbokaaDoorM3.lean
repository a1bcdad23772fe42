/-
  The string of an automaton reads as the automaton.
-/
import Derived.Test.YtibaihchnbbokaaDoorP2
import Derived.Lib.AtoiTie
import Derived.Lib.ItoaNum
namespace Go.Proofs.YtibaihchnbbokaaDoor
open Go.RowKit Go.Shelf

theorem index_off (c : UInt8) : ∀ (x : List UInt8), c ∉ x → Lib.index x [c] = -1
  | [], _ => by simp [Lib.index]
  | b :: x, h => by
    have h1 : c ≠ b := fun e => h (by simp [e])
    have h2 := index_off c x (fun e => h (List.mem_cons_of_mem _ e))
    rw [Lib.index, h2]
    simp [List.isPrefixOf, h1]
theorem index_at (c : UInt8) (r : List UInt8) : ∀ (x : List UInt8), c ∉ x → Lib.index (x ++ c :: r) [c] = (x.length : Int)
  | [], _ => by rw [List.nil_append, Lib.index]; simp [List.isPrefixOf]
  | b :: x, h => by
    have h1 : c ≠ b := fun e => h (by simp [e])
    have h2 := index_at c r x (fun e => h (List.mem_cons_of_mem _ e))
    rw [List.cons_append, Lib.index, h2]
    simp [List.isPrefixOf, h1]

theorem join_two (x y : List UInt8) (r : List (List UInt8)) (c : UInt8) : Lib.join (x :: y :: r) [c] = x ++ c :: Lib.join (y :: r) [c] := by
  rw [Lib.join_cons, Lib.join_cons]
  simp [Lib.joinTail]

theorem split_join (c : UInt8) : ∀ (xs : List (List UInt8)), xs ≠ [] → (∀ x ∈ xs, c ∉ x) → Lib.splitK [c] 0 (Lib.count (Lib.join xs [c]) [c]) (Lib.join xs [c]) = xs
  | [], h, _ => absurd rfl h
  | [x], _, hx => by
    rw [Lib.join_one, Lib.count_miss (index_off c x (hx x (by simp)))]; rfl
  | x :: y :: r, _, hx => by
    have h1 := index_at c (Lib.join (y :: r) [c]) x (hx x (by simp))
    have h2 := split_join c (y :: r) (by simp) (fun z hz => hx z (List.mem_cons_of_mem _ hz))
    rw [join_two, Lib.count_hit (by simp) h1]
    have e1 : (x ++ c :: Lib.join (y :: r) [c]).drop (x.length + [c].length) = Lib.join (y :: r) [c] := by simp
    rw [e1, Nat.add_comm 1, Lib.splitK, h1]
    have e2 : ((x.length : Int) == -1) = false := by simp
    rw [e2]
    simp only [Bool.false_eq_true, if_false, Int.toNat_natCast, Nat.add_zero]
    rw [e1, h2]
    simp

theorem parts_join (c : UInt8) (xs : List (List UInt8)) (hne : xs ≠ []) (hx : ∀ x ∈ xs, c ∉ x) (s : ByteArray) (hs : s.data.toList = Lib.join xs [c]) : (parts c s).map (·.data.toList) = xs := by
  rw [parts, Lib.splitB_data, hs]
  show Lib.splitK [c] 0 (Lib.count s.data.toList [c]) _ = _
  rw [hs]
  exact split_join c xs hne hx

theorem parts_get (c : UInt8) (s : ByteArray) (xs : List (List UInt8)) (h : (parts c s).map (·.data.toList) = xs) (i : Nat) : ((parts c s).getD i ⟨#[]⟩).data.toList = xs.getD i [] := by
  subst h
  simp only [List.getD_eq_getElem?_getD, List.getElem?_map]
  cases (parts c s)[i]? <;> rfl

theorem dig_range (u : Nat) (hu : u < 100) : ∀ b ∈ Lib.decDigits u, 48 ≤ b.toNat ∧ b.toNat ≤ 57 := by
  intro b hb
  by_cases h : u < 10
  · rw [Lib.decDigits_one h] at hb
    simp only [List.mem_cons, List.mem_nil_iff, or_false] at hb
    subst hb
    simp; omega
  · rw [Lib.decDigits_two h hu] at hb
    simp only [List.mem_cons, List.mem_nil_iff, or_false] at hb
    rcases hb with rfl | rfl <;> (simp; omega)

theorem atoi_one : ∀ i : Fin 10, Lib.atoiAll [UInt8.ofNat (48 + i.val)] = .ok (i.val : Int) := by decide +kernel
theorem atoi_two : ∀ i : Fin 100, Lib.atoiAll [UInt8.ofNat (48 + i.val / 10), UInt8.ofNat (48 + i.val % 10)] = .ok (i.val : Int) := by decide +kernel
theorem atoi_dec (u : Nat) (hu : u < 100) : Lib.atoiAll (Lib.decDigits u) = .ok (u : Int) := by
  by_cases h : u < 10
  · rw [Lib.decDigits_one h]; exact atoi_one ⟨u, h⟩
  · rw [Lib.decDigits_two h hu]; exact atoi_two ⟨u, hu⟩

theorem join_mem (c : UInt8) (b : UInt8) : ∀ (xs : List (List UInt8)), b ∈ Lib.join xs [c] → b = c ∨ ∃ x ∈ xs, b ∈ x
  | [], h => by simp [Lib.join_nil] at h
  | [x], h => by rw [Lib.join_one] at h; exact .inr ⟨x, by simp, h⟩
  | x :: y :: r, h => by
    rw [join_two, List.mem_append, List.mem_cons] at h
    rcases h with h | h | h
    · exact .inr ⟨x, by simp, h⟩
    · exact .inl h
    · rcases join_mem c b (y :: r) h with h | ⟨z, hz, h⟩
      · exact .inl h
      · exact .inr ⟨z, List.mem_cons_of_mem _ hz, h⟩

theorem join_lt (c : UInt8) (k : Nat) : ∀ (xs : List (List UInt8)), xs ≠ [] → (∀ x ∈ xs, x.length ≤ k) → (Lib.join xs [c]).length + 1 ≤ xs.length * (k + 1)
  | [], h, _ => absurd rfl h
  | [x], _, hx => by rw [Lib.join_one]; have := hx x (by simp); simp; omega
  | x :: y :: r, _, hx => by
    have h1 := join_lt c k (y :: r) (by simp) (fun z hz => hx z (List.mem_cons_of_mem _ hz))
    have h2 := hx x (by simp)
    rw [join_two]
    simp only [List.length_append, List.length_cons] at *
    rw [Nat.add_mul (r.length + 1) 1]
    omega

theorem row_sep {r : List Int} (h : ∀ x ∈ r, 0 ≤ x ∧ x < 100) : ∀ x ∈ r.map (fun x => Lib.decDigits x.toNat), (46 : UInt8) ∉ x ∧ (32 : UInt8) ∉ x ∧ x.length ≤ 2 := by
  intro y hy
  obtain ⟨x, hx, rfl⟩ := List.mem_map.1 hy
  have hx' : x.toNat < 100 := by have := h x hx; omega
  refine ⟨fun e => ?_, fun e => ?_, dec_len _ hx'⟩
  · have := dig_range _ hx' _ e; simp at this
  · have := dig_range _ hx' _ e; simp at this

theorem row_nosp {r : List Int} (h : ∀ x ∈ r, 0 ≤ x ∧ x < 100) : (32 : UInt8) ∉ rowText r := by
  intro e
  rcases join_mem _ _ _ e with h1 | ⟨x, hx, h1⟩
  · simp at h1
  · exact (row_sep h x hx).2.1 h1

theorem row_len {r : List Int} (h : ∀ x ∈ r, 0 ≤ x ∧ x < 100) (hl : 1 ≤ r.length) (h6 : r.length ≤ 6) : (rowText r).length ≤ 17 := by
  have := join_lt 46 2 (r.map fun x => Lib.decDigits x.toNat) (by intro e; have := congrArg List.length e; simp at this; subst this; simp at hl) (fun x hx => (row_sep h x hx).2.2)
  rw [List.length_map] at this
  unfold rowText
  omega

theorem valid_row {m : List (List Int)} (hv : validM m = true) : ∀ r ∈ m, r.length = letters m ∧ ∀ x ∈ r, 0 ≤ x ∧ x < 100 := by
  obtain ⟨p1, p2, p3, p4, p5⟩ := valid_parts hv
  intro r hr
  obtain ⟨i, hi, rfl⟩ := List.mem_iff_getElem.1 hr
  have e : m.getD i [] = m[i] := by simp [List.getD_eq_getElem?_getD, List.getElem?_eq_getElem hi]
  have h := p5 i hi
  rw [e] at h
  refine ⟨h.1, fun x hx => ?_⟩
  obtain ⟨j, hj, rfl⟩ := List.mem_iff_getElem.1 hx
  have h2 := h.2 j (by omega)
  rw [getD_elem _ j hj] at h2
  omega

theorem text_len {m : List (List Int)} (hv : validM m = true) : (textM m).length + 1 ≤ 1080 := by
  obtain ⟨p1, p2, p3, p4, p5⟩ := valid_parts hv
  have := join_lt 32 17 (m.map rowText) (by intro e; have := congrArg List.length e; simp at this; subst this; simp at p1) (fun x hx => by
    obtain ⟨r, hr, rfl⟩ := List.mem_map.1 hx
    have h := valid_row hv r hr
    exact row_len h.2 (by omega) (by omega))
  rw [List.length_map] at this
  unfold textM
  omega

theorem reads_text {m : List (List Int)} (hv : validM m = true) : Reads (strB (textM m)) m := by
  obtain ⟨p1, p2, p3, p4, p5⟩ := valid_parts hv
  have hl := text_len hv
  have h1 := parts_join 32 (m.map rowText) (by intro e; have := congrArg List.length e; simp at this; subst this; simp at p1) (fun x hx => by
    obtain ⟨r, hr, rfl⟩ := List.mem_map.1 hx
    exact row_nosp (valid_row hv r hr).2) (strB (textM m)) (by simp [strB, textM])
  refine ⟨?_, ?_, fun i hi => ?_⟩
  · show (textM m).toArray.size ≤ 1080
    simp; omega
  · have := congrArg List.length h1
    simpa using this
  · have h2 := parts_get _ _ _ h1 i
    have hr : m.getD i [] ∈ m := by rw [show m.getD i [] = m[i] by simp [List.getD_eq_getElem?_getD, List.getElem?_eq_getElem hi]]; exact List.getElem_mem _
    obtain ⟨hrl, hrb⟩ := valid_row hv _ hr
    have e2 : (m.map rowText).getD i [] = rowText (m.getD i []) := by simp [List.getD_eq_getElem?_getD, List.getElem?_eq_getElem hi]
    rw [e2] at h2
    generalize (parts 32 (strB (textM m))).getD i ⟨#[]⟩ = line at *
    generalize m.getD i [] = row at *
    have hrow := row_len hrb (by omega) (by omega)
    have h2' : line.data.toList = Lib.join (row.map fun x : Int => Lib.decDigits x.toNat) [46] := h2
    have h3 := parts_join 46 (row.map fun x : Int => Lib.decDigits x.toNat) (by intro e; have := congrArg List.length e; simp at this; subst this; simp at hrl; omega) (fun x hx => (row_sep hrb x hx).1) line h2'
    refine ⟨?_, ?_, fun j hj => ?_⟩
    · have : line.size = line.data.toList.length := Array.length_toList.symm
      rw [this, h2]; omega
    · have := congrArg List.length h3
      simpa using this
    · have h4 := parts_get _ _ _ h3 j
      have e4 : (row.map fun x => Lib.decDigits x.toNat).getD j [] = Lib.decDigits (row.getD j 0).toNat := by simp [List.getD_eq_getElem?_getD, List.getElem?_eq_getElem hj]
      rw [e4] at h4
      have hb := hrb (row.getD j 0) (by rw [getD_elem row j hj]; exact List.getElem_mem _)
      have hd := dec_len (row.getD j 0).toNat (by omega)
      refine ⟨?_, ?_⟩
      · have : ((parts 46 line).getD j ⟨#[]⟩).size = ((parts 46 line).getD j ⟨#[]⟩).data.toList.length := Array.length_toList.symm
        rw [this, h4]; omega
      · rw [h4, atoi_dec _ (by omega)]
        congr 1
        omega
end Go.Proofs.YtibaihchnbbokaaDoor
