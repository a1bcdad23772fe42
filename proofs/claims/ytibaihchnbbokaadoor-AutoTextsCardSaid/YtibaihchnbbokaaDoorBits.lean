/-
  The elements of a set that is kept as the bits of a number; the lowest one.
-/
namespace Go.Proofs.YtibaihchnbbokaaDoor
/-- The elements of a set that is kept as the bits of a number. -/
def elems (S : Nat) : List Nat := (List.range 64).filter S.testBit

theorem filter_first (p q : Nat → Bool) (n k : Nat) (hk : k < n) (hp : p k = true) (hlo : ∀ i, i < k → p i = false) (hq : ∀ i, q i = (p i && decide (i ≠ k))) :
    (List.range n).filter p = k :: (List.range n).filter q := by
  have e : List.range n = List.range k ++ (k :: List.range' (k + 1) (n - k - 1)) := by
    rw [List.range_eq_range', List.range_eq_range']
    have h1 : k :: List.range' (k + 1) (n - k - 1) = List.range' k (n - k) := by
      have h2 : n - k = (n - k - 1) + 1 := by omega
      rw [h2, List.range'_succ]
      simp
    rw [h1]
    have h3 := List.range'_append (s := 0) (m := k) (n := n - k) (step := 1)
    simp only [Nat.one_mul, Nat.zero_add] at h3
    rw [h3]
    congr 1
    omega
  have f1 : (List.range k).filter p = [] := by
    rw [List.filter_eq_nil_iff]
    intro a ha
    simp [hlo a (List.mem_range.1 ha)]
  have f2 : (List.range k).filter q = [] := by
    rw [List.filter_eq_nil_iff]
    intro a ha
    simp [hq, hlo a (List.mem_range.1 ha)]
  have f3 : (List.range' (k + 1) (n - k - 1)).filter p = (List.range' (k + 1) (n - k - 1)).filter q := by
    apply List.filter_congr
    intro a ha
    have := List.mem_range'_1.1 ha
    rw [hq]
    have h : a ≠ k := by omega
    simp [h]
  rw [e, List.filter_append, List.filter_append, f1, f2, List.filter_cons, List.filter_cons, f3]
  simp [hp, hq]

/-- Of a number that is not zero: where its lowest bit is; without it the number is less. -/
theorem low_bit (k m : Nat) : ∀ i, (2 ^ k * (2 * m + 1)).testBit i = (decide (k = i) || (decide (k < i) && m.testBit (i - k - 1))) := by
  intro i
  have h := Nat.testBit_two_pow_mul_add (2 * m + 1) (b := 0) (i := k) (Nat.two_pow_pos k) i
  rw [Nat.add_zero] at h
  rw [h]
  by_cases h1 : i < k
  · have a : ¬ k = i := by omega
    have b : ¬ k < i := by omega
    simp [h1, a, b]
  · rw [if_neg h1]
    by_cases h2 : k = i
    · subst h2; simp [Nat.testBit_zero]
    · have h3 : k < i := by omega
      obtain ⟨j, rfl⟩ : ∃ j, i = k + 1 + j := ⟨i - k - 1, by omega⟩
      have e1 : k + 1 + j - k = j + 1 := by omega
      have e2 : k + 1 + j - k - 1 = j := by omega
      rw [e1, Nat.testBit_succ]
      have d1 : (2 * m + 1) / 2 = m := by omega
      rw [d1]
      have : ¬ k = k + 1 + j := by omega
      simp [h3, this]

theorem low_bit_pred (k m : Nat) : ∀ i, (2 ^ k * (2 * m + 1) - 1).testBit i = (decide (i < k) || (decide (k < i) && m.testBit (i - k - 1))) := by
  intro i
  have hp := Nat.two_pow_pos k
  have e : 2 ^ k * (2 * m + 1) - 1 = 2 ^ k * (2 * m) + (2 ^ k - 1) := by
    rw [Nat.mul_add, Nat.mul_one]; omega
  rw [e, Nat.testBit_two_pow_mul_add (2 * m) (b := 2 ^ k - 1) (i := k) (by omega) i]
  by_cases h1 : i < k
  · simp [h1, Nat.testBit_two_pow_sub_one]
  · rw [if_neg h1]
    by_cases h2 : k = i
    · subst h2; simp [Nat.testBit_zero]
    · have h3 : k < i := by omega
      obtain ⟨j, rfl⟩ : ∃ j, i = k + 1 + j := ⟨i - k - 1, by omega⟩
      have e1 : k + 1 + j - k = j + 1 := by omega
      have e2 : k + 1 + j - k - 1 = j := by omega
      rw [e1, Nat.testBit_succ]
      have d1 : 2 * m / 2 = m := by omega
      rw [d1]
      simp [h3, h1]

theorem elems_step (S k m : Nat) (hS : S = 2 ^ k * (2 * m + 1)) (hk : k < 64) : elems S = k :: elems (S &&& (S - 1)) ∧ S &&& (S - 1) < S := by
  have h1 := low_bit k m
  have h2 := low_bit_pred k m
  rw [← hS] at h1 h2
  refine ⟨filter_first _ _ 64 k hk ?_ ?_ ?_, ?_⟩
  · rw [h1]; simp
  · intro i hi
    rw [h1]
    have a : ¬ k = i := by omega
    have b : ¬ k < i := by omega
    simp [a, b]
  · intro i
    rw [Nat.testBit_and, h1, h2]
    by_cases e : k = i
    · subst e; simp
    · have e' : i ≠ k := fun h => e h.symm
      by_cases h3 : k < i
      · have h4 : ¬ i < k := by omega
        simp [e, e', h3, h4]
      · simp [e, h3]
  · have hle : S &&& (S - 1) ≤ S - 1 := Nat.and_le_right
    have hp := Nat.two_pow_pos k
    have : 0 < S := by rw [hS]; exact Nat.mul_pos hp (by omega)
    omega

theorem elems_zero : elems 0 = [] := by
  unfold elems
  rw [List.filter_eq_nil_iff]
  intro a _
  simp

theorem mem_elems (S i : Nat) : i ∈ elems S ↔ i < 64 ∧ S.testBit i = true := by
  unfold elems; simp [List.mem_filter]

/-- The bit of an element, set. -/
theorem testBit_with (S x i : Nat) : (S ||| 2 ^ x).testBit i = (S.testBit i || decide (x = i)) := by
  rw [Nat.testBit_or, Nat.testBit_two_pow]

theorem with_lt (S x n : Nat) (hS : S < 2 ^ n) (hx : x < n) : S ||| 2 ^ x < 2 ^ n :=
  Nat.or_lt_two_pow hS (Nat.pow_lt_pow_right (by decide) hx)

theorem testBit_below (n i : Nat) : (2 ^ n - 1).testBit i = decide (i < n) := Nat.testBit_two_pow_sub_one n i

/-- Two numbers below 2^64 with the same elements are one. -/
theorem eq_of_elems (S T : Nat) (hS : S < 2 ^ 64) (hT : T < 2 ^ 64) (h : ∀ i, i < 64 → S.testBit i = T.testBit i) : S = T := by
  apply Nat.eq_of_testBit_eq
  intro i
  by_cases hi : i < 64
  · exact h i hi
  · have a : S.testBit i = false := Nat.testBit_lt_two_pow (Nat.lt_of_lt_of_le hS (Nat.pow_le_pow_right (by decide) (by omega)))
    have b : T.testBit i = false := Nat.testBit_lt_two_pow (Nat.lt_of_lt_of_le hT (Nat.pow_le_pow_right (by decide) (by omega)))
    rw [a, b]
end Go.Proofs.YtibaihchnbbokaaDoor
