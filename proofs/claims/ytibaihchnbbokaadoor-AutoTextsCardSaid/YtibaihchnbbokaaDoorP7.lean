/-
  Renamed, where all arguments are in order.
-/
import Derived.Test.YtibaihchnbbokaaDoorP6
namespace Go.Proofs.YtibaihchnbbokaaDoor
open Go.RowKit Go.Shelf

theorem no_dup {α : Type} [BEq α] [LawfulBEq α] : ∀ (s l : List α), s.Nodup → (∀ x ∈ s, x ∈ l) → l.length = s.length → l.Nodup
  | [], l, _, _, hl => by
    have : l = [] := List.eq_nil_of_length_eq_zero hl
    subst this
    exact List.nodup_nil
  | a :: s, l, hn, hs, hl => by
    have ha := hs a (by simp)
    have hn' := List.nodup_cons.1 hn
    have h1 : ∀ y ∈ s, y ∈ l.erase a := fun y hy => (List.mem_erase_of_ne (fun (e : y = a) => hn'.1 (e ▸ hy))).2 (hs y (List.mem_cons_of_mem _ hy))
    have h2 : (l.erase a).length = s.length := by rw [List.length_erase_of_mem ha, hl]; simp
    have h3 := no_dup s (l.erase a) hn'.2 h1 h2
    have h4 : a ∉ l.erase a := fun h => hn'.1 (no_other s (l.erase a) hn'.2 h1 h2 a h)
    exact (List.perm_cons_erase ha).nodup_iff.2 (List.nodup_cons.2 ⟨h4, h3⟩)

theorem names_nodup {l : List Int} {n : Nat} (h : namesM l n = true) : l.Nodup := by
  rw [namesM, Bool.and_eq_true, decide_eq_true_eq, List.all_eq_true] at h
  have hs : ∀ y ∈ (List.range n).map fun i : Nat => (i : Int), y ∈ l := by
    intro y hy
    obtain ⟨i, hi, rfl⟩ := List.mem_map.1 hy
    exact hasB_mem.1 (h.2 i hi)
  have hnd : ((List.range n).map fun i : Nat => (i : Int)).Nodup := by
    rw [List.nodup_iff_pairwise_ne, List.pairwise_map]
    exact List.pairwise_lt_range.imp (fun hab e => by omega)
  exact no_dup _ l hnd hs (by simp [h.1])

theorem names_inj {l : List Int} {n : Nat} (h : namesM l n = true) {s t : Nat} (hs : s < l.length) (ht : t < l.length) (e : l.getD s 0 = l.getD t 0) : s = t := by
  rw [getD_elem l s hs, getD_elem l t ht] at e
  have hp := List.pairwise_iff_getElem.1 (List.nodup_iff_pairwise_ne.1 (names_nodup h))
  rcases Nat.lt_trichotomy s t with h1 | h1 | h1
  · exact absurd e (hp s t hs ht h1)
  · exact h1
  · exact absurd e.symm (hp t s ht hs h1)

/-- The row of a state under the new names; the automaton. -/
def renRow (m : List (List Int)) (l : List Int) (s : Nat) : List Int := (m.getD s []).map fun t => l.getD t.toNat 0
def renM (m : List (List Int)) (l : List Int) : List (List Int) := (List.range m.length).map fun q : Nat => renRow m l (l.idxOf (q : Int))
theorem renM_length (m : List (List Int)) (l : List Int) : (renM m l).length = m.length := by simp [renM]
theorem renM_get (m : List (List Int)) (l : List Int) (i : Nat) (h : i < m.length) : (renM m l).getD i [] = renRow m l (l.idxOf (i : Int)) := by simp [renM, List.getD_eq_getElem?_getD, h]
theorem renRow_length {m : List (List Int)} (hv : validM m = true) (l : List Int) (s : Nat) (hs : s < m.length) : (renRow m l s).length = letters m := by
  rw [renRow, List.length_map]; exact ((valid_parts hv).2.2.2.2 s hs).1
theorem renRow_succ {m : List (List Int)} (hv : validM m = true) (l : List Int) (s k : Nat) (hs : s < m.length) (hk : k < letters m) : ((renRow m l s).take (k + 1)).map (fun x => Value.int .i64 x) = ((renRow m l s).take k).map (fun x => Value.int .i64 x) ++ [.int .i64 (l.getD ((m.getD s []).getD k 0).toNat 0)] := by
  have hk' : k < (renRow m l s).length := by rw [renRow_length hv l s hs]; exact hk
  have hk2 : k < (m.getD s []).length := by rw [((valid_parts hv).2.2.2.2 s hs).1]; exact hk
  rw [List.take_succ_eq_append_getElem hk', List.map_append, getD_elem (m.getD s []) k hk2]
  simp [renRow]
theorem names_at {l : List Int} {n : Nat} (h : namesM l n = true) (i : Nat) (hi : i < n) : l.idxOf (i : Int) < n ∧ l.getD (l.idxOf (i : Int)) 0 = i := by
  have h' := h
  rw [namesM, Bool.and_eq_true, decide_eq_true_eq, List.all_eq_true] at h'
  have hm := hasB_mem.1 (h'.2 i (List.mem_range.2 hi))
  have hl := List.idxOf_lt_length_of_mem hm
  refine ⟨by omega, ?_⟩
  rw [getD_elem l _ hl]
  exact List.getElem_idxOf hl
end Go.Proofs.YtibaihchnbbokaaDoor
