/-
  How the reference scans a string; what it makes of the string of an automaton.
-/
import Derived.Test.YtibaihchnbbokaaDoorR11
namespace Go.Proofs.YtibaihchnbbokaaDoor
open Go.RowKit Go.Shelf

/-- What is done; the row under way; the number under way; how many digits it has. -/
abbrev Sc := List (List Int) × List Int × Nat × Nat
def scDig (many : Nat) (b : UInt8) : Bool := decide (48 ≤ b.toNat) && (decide (b.toNat ≤ 57) && decide (many < 3))
def scStep (st : Sc) (b : UInt8) : Sc :=
  if scDig st.2.2.2 b = true then (st.1, st.2.1, 10 * st.2.2.1 + (b.toNat - 48), st.2.2.2 + 1)
  else if b.toNat = 32 then (st.1 ++ [st.2.1 ++ [(st.2.2.1 : Int)]], [], 0, 0) else (st.1, st.2.1 ++ [(st.2.2.1 : Int)], 0, 0)
def scan (l : List UInt8) : Sc := l.foldl scStep ([], [], 0, 0)
def scanM (l : List UInt8) : List (List Int) := (scan l).1 ++ [(scan l).2.1 ++ [((scan l).2.2.1 : Int)]]

theorem scan_snoc (l : List UInt8) (b : UInt8) : scan (l ++ [b]) = scStep (scan l) b := by simp [scan, List.foldl_append]

theorem scStep_inv (st : Sc) (b : UInt8) (h1 : st.2.2.2 ≤ 3) (h2 : st.2.2.1 < 10 ^ st.2.2.2) : (scStep st b).2.2.2 ≤ 3 ∧ (scStep st b).2.2.1 < 10 ^ (scStep st b).2.2.2 := by
  unfold scStep
  split
  · rename_i h
    simp only [scDig, Bool.and_eq_true, decide_eq_true_eq] at h
    refine ⟨by show st.2.2.2 + 1 ≤ 3; omega, ?_⟩
    show 10 * st.2.2.1 + (b.toNat - 48) < 10 ^ (st.2.2.2 + 1)
    rw [Nat.pow_succ]; omega
  · split
    · exact ⟨Nat.zero_le _, by show 0 < 10 ^ 0; decide⟩
    · exact ⟨Nat.zero_le _, by show 0 < 10 ^ 0; decide⟩
theorem fold_inv : ∀ (l : List UInt8) (st : Sc), st.2.2.2 ≤ 3 → st.2.2.1 < 10 ^ st.2.2.2 → (l.foldl scStep st).2.2.2 ≤ 3 ∧ (l.foldl scStep st).2.2.1 < 10 ^ (l.foldl scStep st).2.2.2
  | [], _, h1, h2 => ⟨h1, h2⟩
  | b :: l, st, h1, h2 => by
    obtain ⟨k1, k2⟩ := scStep_inv st b h1 h2
    exact fold_inv l _ k1 k2
theorem scan_inv (l : List UInt8) : (scan l).2.2.2 ≤ 3 ∧ (scan l).2.2.1 < 10 ^ (scan l).2.2.2 := fold_inv l _ (Nat.zero_le _) (by show 0 < 10 ^ 0; decide)
theorem scan_n (l : List UInt8) : (scan l).2.2.1 < 1000 := by
  obtain ⟨h1, h2⟩ := scan_inv l
  have : 10 ^ (scan l).2.2.2 ≤ 10 ^ 3 := Nat.pow_le_pow_right (by decide) h1
  omega

theorem sc_one (d : List (List Int)) (c : List Int) (n many u : Nat) (hu : u < 10) (hm : many < 3) : scStep (d, c, n, many) (UInt8.ofNat (48 + u)) = (d, c, 10 * n + u, many + 1) := by
  have e : (UInt8.ofNat (48 + u)).toNat = 48 + u := by simp; omega
  unfold scStep scDig
  rw [e]
  have h1 : decide (48 ≤ 48 + u) = true := by simp
  have h2 : decide (48 + u ≤ 57) = true := by simp; omega
  have h3 : decide (many < 3) = true := by simp [hm]
  rw [h1, h2, h3]
  simp
theorem sc_dig (d : List (List Int)) (c : List Int) (u : Nat) (hu : u < 100) : ∃ k, k ≤ 2 ∧ (Lib.decDigits u).foldl scStep (d, c, 0, 0) = (d, c, u, k) := by
  by_cases h : u < 10
  · refine ⟨1, by omega, ?_⟩
    rw [Lib.decDigits_one h, List.foldl_cons, List.foldl_nil, sc_one d c 0 0 u h (by omega)]
    simp
  · refine ⟨2, by omega, ?_⟩
    rw [Lib.decDigits_two h hu, List.foldl_cons, List.foldl_cons, List.foldl_nil, sc_one d c 0 0 _ (by omega) (by omega), sc_one d c _ _ _ (by omega) (by omega)]
    have : 10 * (10 * 0 + u / 10) + u % 10 = u := by omega
    rw [this]
theorem sc_dot (d : List (List Int)) (c : List Int) (n k : Nat) : scStep (d, c, n, k) 46 = (d, c ++ [(n : Int)], 0, 0) := by
  unfold scStep scDig; simp
theorem sc_space (d : List (List Int)) (c : List Int) (n k : Nat) : scStep (d, c, n, k) 32 = (d ++ [c ++ [(n : Int)]], [], 0, 0) := by
  unfold scStep scDig; simp

theorem sc_row (d : List (List Int)) : ∀ (r : List Int) (c0 : List Int), r ≠ [] → (∀ x ∈ r, 0 ≤ x ∧ x < 100) → ∃ (c : List Int) (n k : Nat), (rowText r).foldl scStep (d, c0, 0, 0) = (d, c0 ++ c, n, k) ∧ c ++ [(n : Int)] = r
  | [], _, h, _ => absurd rfl h
  | [x], c0, _, hx => by
    have hx' := hx x (by simp)
    obtain ⟨k, _, hk⟩ := sc_dig d c0 x.toNat (by omega)
    refine ⟨[], x.toNat, k, ?_, ?_⟩
    · show (Lib.join [Lib.decDigits x.toNat] [46]).foldl scStep _ = _
      rw [Lib.join_one, hk, List.append_nil]
    · rw [Int.toNat_of_nonneg hx'.1]; rfl
  | x :: y :: r, c0, _, hx => by
    have hx' := hx x (by simp)
    obtain ⟨k, _, hk⟩ := sc_dig d c0 x.toNat (by omega)
    obtain ⟨c, n, k2, h1, h2⟩ := sc_row d (y :: r) (c0 ++ [(x.toNat : Int)]) (by simp) (fun z hz => hx z (List.mem_cons_of_mem _ hz))
    refine ⟨x :: c, n, k2, ?_, by rw [List.cons_append, h2]⟩
    show (Lib.join (Lib.decDigits x.toNat :: Lib.decDigits y.toNat :: r.map fun x => Lib.decDigits x.toNat) [46]).foldl scStep _ = _
    rw [join_two, List.foldl_append, hk, List.foldl_cons, sc_dot]
    have e : c0 ++ x :: c = c0 ++ [(x.toNat : Int)] ++ c := by rw [Int.toNat_of_nonneg hx'.1]; simp
    rw [e]
    exact h1

theorem sc_text : ∀ (m : List (List Int)) (d : List (List Int)), m ≠ [] → (∀ r ∈ m, r ≠ [] ∧ ∀ x ∈ r, 0 ≤ x ∧ x < 100) → ∃ (D : List (List Int)) (c : List Int) (n k : Nat), (textM m).foldl scStep (d, [], 0, 0) = (d ++ D, c, n, k) ∧ D ++ [c ++ [(n : Int)]] = m
  | [], _, h, _ => absurd rfl h
  | [r], d, _, hr => by
    obtain ⟨h0, h1⟩ := hr r (by simp)
    obtain ⟨c, n, k, h2, h3⟩ := sc_row d r [] h0 h1
    refine ⟨[], c, n, k, ?_, by rw [h3]; rfl⟩
    show (Lib.join [rowText r] [32]).foldl scStep _ = _
    rw [Lib.join_one, h2, List.append_nil, List.nil_append]
  | r :: r2 :: m, d, _, hr => by
    obtain ⟨h0, h1⟩ := hr r (by simp)
    obtain ⟨c, n, k, h2, h3⟩ := sc_row d r [] h0 h1
    obtain ⟨D, c', n', k', h4, h5⟩ := sc_text (r2 :: m) (d ++ [r]) (by simp) (fun z hz => hr z (List.mem_cons_of_mem _ hz))
    refine ⟨r :: D, c', n', k', ?_, by rw [List.cons_append, h5]⟩
    show (Lib.join (rowText r :: rowText r2 :: m.map rowText) [32]).foldl scStep _ = _
    rw [join_two, List.foldl_append, h2, List.foldl_cons, List.nil_append, sc_space, h3]
    have e : d ++ r :: D = d ++ [r] ++ D := by simp
    rw [e]
    exact h4

theorem scan_text {m : List (List Int)} (hv : validM m = true) : scanM (textM m) = m := by
  obtain ⟨p1, p2, p3, p4, p5⟩ := valid_parts hv
  obtain ⟨D, c, n, k, h1, h2⟩ := sc_text m [] (by intro e; subst e; simp at p1) (fun r hr => by
    obtain ⟨h1, h2⟩ := valid_row hv r hr
    exact ⟨by intro e; subst e; simp at h1; omega, h2⟩)
  have e : scan (textM m) = ([] ++ D, c, n, k) := h1
  rw [scanM, e, List.nil_append]
  exact h2
end Go.Proofs.YtibaihchnbbokaaDoor
