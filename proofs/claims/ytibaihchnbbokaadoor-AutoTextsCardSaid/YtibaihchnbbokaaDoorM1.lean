/-
  Of words one after the other, and of sets as numbers.
-/
import Derived.Test.YtibaihchnbbokaaDoorT8
namespace Go.Proofs.YtibaihchnbbokaaDoor
open Go.RowKit Go.Shelf

theorem runM_append (m : List (List Int)) (s : Nat) (u v : List Int) : runM m s (u ++ v) = runM m (runM m s u) v := by simp [runM, List.foldl_append]
theorem imgWord_append (m : List (List Int)) (S : Nat) (u v : List Int) : imgWord m S (u ++ v) = imgWord m (imgWord m S u) v := by simp [imgWord, List.foldl_append]
theorem preWord_append (m : List (List Int)) (S : Nat) (u v : List Int) : preWord m S (u ++ v) = preWord m (preWord m S v) u := by simp [preWord, List.foldr_append]

theorem isWordM_append {m : List (List Int)} {u v : List Int} (hu : isWordM m u = true) (hv : isWordM m v = true) (hl : u.length + v.length ≤ 40000) : isWordM m (u ++ v) = true := by
  simp only [isWordM, Bool.and_eq_true, decide_eq_true_eq] at *
  exact ⟨by rw [List.length_append]; exact hl, by rw [List.all_append, hu.2, hv.2]; rfl⟩


theorem foldl_or_testBit : ∀ (l : List Int) (T i : Nat), (l.foldl (fun S x => S ||| 2 ^ x.toNat) T).testBit i = (T.testBit i || l.any fun x => decide (x.toNat = i))
  | [], T, i => by simp
  | x :: l, T, i => by
    rw [List.foldl_cons, foldl_or_testBit l, testBit_with, List.any_cons, Bool.or_assoc]
theorem ofList_testBit (l : List Int) (i : Nat) : (ofList l).testBit i = l.any fun x => decide (x.toNat = i) := by
  rw [ofList, foldl_or_testBit]; simp

theorem testBit_big {S n i : Nat} (hS : S < 2 ^ n) (hi : n ≤ i) : S.testBit i = false := Nat.testBit_lt_two_pow (Nat.lt_of_lt_of_le hS (Nat.pow_le_pow_right (by decide) hi))

theorem ofList_elems {S : Nat} (hS : S < 2 ^ 64) : ofList (intsOf (elems S)) = S := by
  apply Nat.eq_of_testBit_eq
  intro i
  rw [ofList_testBit]
  by_cases hi : i < 64
  · cases hb : S.testBit i with
    | true =>
      rw [List.any_eq_true]
      exact ⟨(i : Int), List.mem_map.2 ⟨i, (mem_elems S i).2 ⟨hi, hb⟩, rfl⟩, by simp⟩
    | false =>
      rw [List.any_eq_false]
      intro x hx
      obtain ⟨y, hy, rfl⟩ := List.mem_map.1 hx
      have := (mem_elems S y).1 hy
      simp
      rintro rfl
      rw [hb] at this
      simp at this
  · rw [testBit_big hS (by omega), List.any_eq_false]
    intro x hx
    obtain ⟨y, hy, rfl⟩ := List.mem_map.1 hx
    have := (mem_elems S y).1 hy
    simp
    omega

theorem elems_sorted (S : Nat) : (elems S).Pairwise (· < ·) := List.Pairwise.filter _ List.pairwise_lt_range

theorem isSetM_of_sorted {m : List (List Int)} {l : List Int} (hs : l.Pairwise (· < ·)) (hb : ∀ x ∈ l, 0 ≤ x ∧ x < (m.length : Int)) : isSetM m l = true := by
  rw [isSetM, Bool.and_eq_true]
  constructor
  · rw [incr, List.all_eq_true]
    intro i hi
    have hi' : i < l.length - 1 := by simpa using hi
    have h := List.pairwise_iff_getElem.1 hs i (i + 1) (by omega) (by omega) (by omega)
    simp only [decide_eq_true_eq]
    simp only [List.getD_eq_getElem?_getD, List.getElem?_eq_getElem (show i < l.length by omega), List.getElem?_eq_getElem (show i + 1 < l.length by omega), Option.getD_some]
    exact h
  · rw [List.all_eq_true]
    intro x hx
    have := hb x hx
    exact inB_true (by omega)

theorem intsOf_sorted {l : List Nat} (h : l.Pairwise (· < ·)) : (intsOf l).Pairwise (· < ·) := by
  rw [intsOf, List.pairwise_map]
  exact h.imp (fun hab => by omega)

theorem isSetM_elems {m : List (List Int)} {S : Nat} (hS : S < 2 ^ m.length) : isSetM m (intsOf (elems S)) = true := by
  refine isSetM_of_sorted (intsOf_sorted (elems_sorted S)) (fun x hx => ?_)
  obtain ⟨y, hy, rfl⟩ := List.mem_map.1 hx
  have := elems_lt hS hy
  omega

/-- A sorted list is as long as the numbers that there are, at most. -/
theorem sorted_len {l : List Int} {n : Nat} (hs : l.Pairwise (· < ·)) (hb : ∀ x ∈ l, 0 ≤ x ∧ x < (n : Int)) : l.length ≤ n := by
  have key : ∀ i (hi : i < l.length), (i : Int) ≤ l[i] := by
    intro i
    induction i with
    | zero => intro hi; exact (hb _ (List.getElem_mem hi)).1
    | succ i ih =>
      intro hi
      have h1 := ih (by omega)
      have h2 := List.pairwise_iff_getElem.1 hs i (i + 1) (by omega) hi (by omega)
      omega
  by_cases h0 : l.length = 0
  · omega
  · have h1 := key (l.length - 1) (by omega)
    have h2 := (hb _ (List.getElem_mem (show l.length - 1 < l.length by omega))).2
    omega

theorem sorted_of_incr {l : List Int} (h : incr l (l.length - 1) = true) : l.Pairwise (· < ·) := by
  rw [incr, List.all_eq_true] at h
  have step : ∀ i (h1 : i + 1 < l.length), l[i] < l[i + 1] := by
    intro i h1
    have := h i (by simp; omega)
    simp only [decide_eq_true_eq] at this
    simpa only [List.getD_eq_getElem?_getD, List.getElem?_eq_getElem (show i < l.length by omega), List.getElem?_eq_getElem h1, Option.getD_some] using this
  rw [List.pairwise_iff_getElem]
  intro i j hi hj hij
  induction j with
  | zero => omega
  | succ j ih =>
    by_cases e : i = j
    · subst e; exact step i hj
    · exact Int.lt_trans (ih (by omega) (by omega)) (step j hj)

theorem isSetM_len {m : List (List Int)} {l : List Int} (h : isSetM m l = true) : l.length ≤ m.length := by
  have h' := h
  rw [isSetM, Bool.and_eq_true] at h'
  exact sorted_len (sorted_of_incr h'.1) (isSetM_mem h)

/-! Images and preimages as sets. -/
theorem imgTo_testBit (m : List (List Int)) (x : Int) (t : Nat) : ∀ (l : List Nat) (T : Nat), (l.foldl (fun T s => T ||| 2 ^ nx m s x) T).testBit t = (T.testBit t || l.any fun s => decide (nx m s x = t))
  | [], T => by simp
  | s :: l, T => by rw [List.foldl_cons, imgTo_testBit m x t l, testBit_with, List.any_cons, Bool.or_assoc]

theorem imgSet_mem (m : List (List Int)) {S : Nat} (hS : S < 2 ^ m.length) (hm : m.length ≤ 64) (x : Int) (t : Nat) : (imgSet m S x).testBit t = true ↔ ∃ s, s < m.length ∧ S.testBit s = true ∧ nx m s x = t := by
  rw [imgSet, imgTo, imgTo_testBit]
  simp only [Nat.zero_testBit, Bool.false_or, List.any_eq_true, decide_eq_true_eq]
  constructor
  · rintro ⟨s, hs, rfl⟩
    exact ⟨s, elems_lt hS hs, ((mem_elems S s).1 hs).2, rfl⟩
  · rintro ⟨s, h1, h2, rfl⟩
    exact ⟨s, (mem_elems S s).2 ⟨by omega, h2⟩, rfl⟩

theorem all_cons_parts {m : List (List Int)} {x : Int} {u : List Int} (h : (x :: u).all (inB 0 ((letters m : Int) - 1)) = true) : (0 ≤ x ∧ x < letters m) ∧ u.all (inB 0 ((letters m : Int) - 1)) = true := by
  rw [List.all_cons, Bool.and_eq_true, inB_iff] at h
  exact ⟨⟨h.1.1, by omega⟩, h.2⟩

theorem imgWord_mem {m : List (List Int)} (hv : validM m = true) : ∀ (u : List Int) (S t : Nat), S < 2 ^ m.length → u.all (inB 0 ((letters m : Int) - 1)) = true →
    ((imgWord m S u).testBit t = true ↔ ∃ s, s < m.length ∧ S.testBit s = true ∧ runM m s u = t)
  | [], S, t, hS, _ => by
    constructor
    · intro h
      refine ⟨t, ?_, h, rfl⟩
      by_cases ht : t < m.length
      · exact ht
      · have := testBit_big hS (show m.length ≤ t by omega)
        simp only [imgWord, List.foldl_nil] at h
        rw [this] at h
        cases h
    · rintro ⟨s, _, h, rfl⟩
      exact h
  | x :: u, S, t, hS, hu => by
    obtain ⟨hx, hu'⟩ := all_cons_parts hu
    have hm : m.length ≤ 64 := by have := (valid_parts hv).2.1; omega
    show (imgWord m (imgSet m S x) u).testBit t = true ↔ _
    rw [imgWord_mem hv u _ t (imgSet_lt hv hS hx.1 hx.2) hu']
    constructor
    · rintro ⟨s, h1, h2, h3⟩
      obtain ⟨q, g1, g2, rfl⟩ := (imgSet_mem m hS hm x s).1 h2
      exact ⟨q, g1, g2, h3⟩
    · rintro ⟨q, g1, g2, h3⟩
      refine ⟨nx m q x, (nx_ok hv g1 hx.1 hx.2).1, (imgSet_mem m hS hm x _).2 ⟨q, g1, g2, rfl⟩, h3⟩

theorem preTo_testBit (m : List (List Int)) (S : Nat) (x : Int) (s : Nat) : ∀ k, (preTo m S x k).testBit s = (decide (s < k) && S.testBit (nx m s x))
  | 0 => by simp [preTo]
  | k + 1 => by
    rw [preTo]
    by_cases hb : S.testBit (nx m k x) = true
    · rw [if_pos hb, testBit_with, preTo_testBit m S x s k]
      by_cases e : k = s
      · subst e; simp [hb]
      · have e1 : decide (k = s) = false := by simp [e]
        have e2 : decide (s < k + 1) = decide (s < k) := by
          by_cases h : s < k
          · simp [h]; omega
          · have : ¬ s < k + 1 := by omega
            simp [h, this]
        rw [e1, e2, Bool.or_false]
    · rw [if_neg hb, preTo_testBit m S x s k]
      by_cases e : k = s
      · subst e; simp at hb; simp [hb]
      · have e2 : decide (s < k + 1) = decide (s < k) := by
          by_cases h : s < k
          · simp [h]; omega
          · have : ¬ s < k + 1 := by omega
            simp [h, this]
        rw [e2]

theorem preWord_testBit {m : List (List Int)} (hv : validM m = true) (S : Nat) : ∀ (u : List Int) (s : Nat), s < m.length → u.all (inB 0 ((letters m : Int) - 1)) = true → (preWord m S u).testBit s = S.testBit (runM m s u)
  | [], s, _, _ => rfl
  | x :: u, s, hs, hu => by
    obtain ⟨hx, hu'⟩ := all_cons_parts hu
    show (preSet m (preWord m S u) x).testBit s = S.testBit (runM m (nx m s x) u)
    rw [preSet, preTo_testBit, preWord_testBit hv S u _ (nx_ok hv hs hx.1 hx.2).1 hu']
    simp [hs]

theorem imageM_append {m : List (List Int)} (hv : validM m = true) {s u v : List Int} (hs : isSetM m s = true) (hu : isWordM m u = true) : imageM m (imageM m s u) v = imageM m s (u ++ v) := by
  have hm : m.length ≤ 64 := by have := (valid_parts hv).2.1; omega
  have hS : ofList s < 2 ^ m.length := ofList_lt m.length hm s (isSetM_mem hs)
  simp only [isWordM, Bool.and_eq_true] at hu
  have hA := imgWord_lt hv u (ofList s) hS hu.2
  rw [imageM, imageM, imageM, ofList_elems (Nat.lt_of_lt_of_le hA (Nat.pow_le_pow_right (by decide) hm)), imgWord_append]
theorem preimageM_append {m : List (List Int)} (hv : validM m = true) {s u v : List Int} (hs : isSetM m s = true) : preimageM m (preimageM m s v) u = preimageM m s (u ++ v) := by
  have hm : m.length ≤ 64 := by have := (valid_parts hv).2.1; omega
  have hS : ofList s < 2 ^ m.length := ofList_lt m.length hm s (isSetM_mem hs)
  have hA := preWord_lt hv hS v
  rw [preimageM, preimageM, preimageM, ofList_elems (Nat.lt_of_lt_of_le hA (Nat.pow_le_pow_right (by decide) hm)), preWord_append]
theorem imageM_set {m : List (List Int)} (hv : validM m = true) {s u : List Int} (hs : isSetM m s = true) (hu : isWordM m u = true) : isSetM m (imageM m s u) = true := by
  have hm : m.length ≤ 64 := by have := (valid_parts hv).2.1; omega
  simp only [isWordM, Bool.and_eq_true] at hu
  exact isSetM_elems (imgWord_lt hv u _ (ofList_lt m.length hm s (isSetM_mem hs)) hu.2)
theorem preimageM_set {m : List (List Int)} (hv : validM m = true) {s u : List Int} (hs : isSetM m s = true) : isSetM m (preimageM m s u) = true := by
  have hm : m.length ≤ 64 := by have := (valid_parts hv).2.1; omega
  exact isSetM_elems (preWord_lt hv (ofList_lt m.length hm s (isSetM_mem hs)) u)
end Go.Proofs.YtibaihchnbbokaaDoor
