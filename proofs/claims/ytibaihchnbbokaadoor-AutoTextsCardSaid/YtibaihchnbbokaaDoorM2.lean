/-
  Of renamed automata and of powers.
-/
import Derived.Test.YtibaihchnbbokaaDoorP7
namespace Go.Proofs.YtibaihchnbbokaaDoor
open Go.RowKit Go.Shelf

theorem validM_of {m : List (List Int)} (h1 : 1 ≤ m.length ∧ m.length ≤ 60) (h2 : 1 ≤ letters m ∧ letters m ≤ 6) (h3 : ∀ i, i < m.length → (m.getD i []).length = letters m ∧ ∀ x ∈ m.getD i [], 0 ≤ x ∧ x < (m.length : Int)) : validM m = true := by
  have e1 : inB 1 60 m.length = true := inB_true (by omega)
  have e2 : inB 1 6 (letters m) = true := inB_true (by omega)
  have e3 : m.all (rowOk m) = true := by
    rw [List.all_eq_true]
    intro r hr
    obtain ⟨i, hi, rfl⟩ := List.mem_iff_getElem.1 hr
    have e : m.getD i [] = m[i] := by simp [List.getD_eq_getElem?_getD, List.getElem?_eq_getElem hi]
    have h := h3 i hi
    rw [e] at h
    rw [rowOk, Bool.and_eq_true, decide_eq_true_eq, List.all_eq_true]
    exact ⟨h.1, fun x hx => inB_true (by have := h.2 x hx; omega)⟩
  rw [validM, e1, e2, e3]; rfl

theorem words_parts {m ws : List (List Int)} (h : wordsM m ws = true) : (1 ≤ ws.length ∧ ws.length ≤ 6) ∧ ws.all (isWordM m) = true := by
  rw [wordsM, Bool.and_eq_true, inB_iff] at h
  exact ⟨by omega, h.2⟩
theorem word_all {m : List (List Int)} {u : List Int} (h : isWordM m u = true) : u.all (inB 0 ((letters m : Int) - 1)) = true := by
  simp only [isWordM, Bool.and_eq_true] at h; exact h.2

theorem powerM_letters {m ws : List (List Int)} (hv : validM m = true) : letters (powerM m ws) = ws.length := by
  rw [letters, powerM_get m ws 0 (by have := (valid_parts hv).1; omega), powRow_length]
theorem powerM_valid {m ws : List (List Int)} (hv : validM m = true) (hw : wordsM m ws = true) : validM (powerM m ws) = true := by
  obtain ⟨h1, h2⟩ := words_parts hw
  have hn := valid_parts hv
  refine validM_of (by rw [powerM_length]; exact ⟨hn.1, hn.2.1⟩) (by rw [powerM_letters hv]; exact h1) (fun i hi => ?_)
  rw [powerM_length] at hi
  rw [powerM_get m ws i hi, powerM_letters hv, powerM_length]
  refine ⟨powRow_length m ws i, fun x hx => ?_⟩
  obtain ⟨q, hq, rfl⟩ := List.mem_map.1 hx
  have := runM_lt hv q i hi (word_all (List.all_eq_true.1 h2 q hq))
  omega

theorem nx_power {m ws : List (List Int)} (s : Nat) (hs : s < m.length) (x : Nat) (hx : x < ws.length) : nx (powerM m ws) s (x : Int) = runM m s (ws.getD x []) := by
  rw [nx, powerM_get m ws s hs, Int.toNat_natCast, powRow]
  simp [List.getD_eq_getElem?_getD, List.getElem?_eq_getElem hx]

theorem run_power {m ws : List (List Int)} (hv : validM m = true) (hw : wordsM m ws = true) : ∀ (u : List Int) (s : Nat), s < m.length → u.all (inB 0 ((ws.length : Int) - 1)) = true →
    runM (powerM m ws) s u = runM m s (u.flatMap fun x => ws.getD x.toNat [])
  | [], s, _, _ => rfl
  | x :: u, s, hs, hu => by
    rw [List.all_cons, Bool.and_eq_true, inB_iff] at hu
    obtain ⟨xn, rfl⟩ := Int.eq_ofNat_of_zero_le hu.1.1
    have hx : xn < ws.length := by omega
    have hq : isWordM m (ws.getD xn []) = true := all_getD _ ws [] (words_parts hw).2 xn hx
    have hlt := runM_lt hv _ s hs (word_all hq)
    rw [List.flatMap_cons, runM_append, Int.toNat_natCast]
    show runM (powerM m ws) (nx (powerM m ws) s (xn : Int)) u = _
    rw [nx_power s hs xn hx]
    exact run_power hv hw u _ hlt hu.2

theorem renM_letters {m : List (List Int)} {l : List Int} (hv : validM m = true) (hn : namesM l m.length = true) : letters (renM m l) = letters m := by
  have h0 : 0 < m.length := by have := (valid_parts hv).1; omega
  rw [letters, renM_get m l 0 h0]
  exact renRow_length hv l _ (names_at hn 0 h0).1
theorem renRow_bound {m : List (List Int)} {l : List Int} (hv : validM m = true) (hn : namesM l m.length = true) (s : Nat) (hs : s < m.length) : ∀ x ∈ renRow m l s, 0 ≤ x ∧ x < (m.length : Int) := by
  intro x hx
  obtain ⟨t, ht, rfl⟩ := List.mem_map.1 hx
  obtain ⟨j, hj, rfl⟩ := List.mem_iff_getElem.1 ht
  have h1 := ((valid_parts hv).2.2.2.2 s hs).2 j (by have := ((valid_parts hv).2.2.2.2 s hs).1; omega)
  rw [getD_elem _ j hj] at h1
  have hl : l.length = m.length := by rw [namesM, Bool.and_eq_true, decide_eq_true_eq] at hn; exact hn.1
  have h2 : ((m.getD s [])[j]).toNat < l.length := by omega
  exact names_bound hn _ (by rw [getD_elem l _ h2]; exact List.getElem_mem _)
theorem renM_valid {m : List (List Int)} {l : List Int} (hv : validM m = true) (hn : namesM l m.length = true) : validM (renM m l) = true := by
  have hp := valid_parts hv
  refine validM_of (by rw [renM_length]; exact ⟨hp.1, hp.2.1⟩) (by rw [renM_letters hv hn]; exact ⟨hp.2.2.1, hp.2.2.2.1⟩) (fun i hi => ?_)
  rw [renM_length] at hi
  have hs := (names_at hn i hi).1
  rw [renM_get m l i hi, renM_letters hv hn, renM_length]
  exact ⟨renRow_length hv l _ hs, renRow_bound hv hn _ hs⟩

theorem nx_ren {m : List (List Int)} {l : List Int} (hv : validM m = true) (hn : namesM l m.length = true) (s : Nat) (hs : s < m.length) (x : Int) (h0 : 0 ≤ x) (h1 : x < letters m) :
    nx (renM m l) (l.getD s 0).toNat x = (l.getD (nx m s x) 0).toNat := by
  have hl : l.length = m.length := by have h := hn; rw [namesM, Bool.and_eq_true, decide_eq_true_eq] at h; exact h.1
  have hb := names_bound hn (l.getD s 0) (by rw [getD_elem l s (by omega)]; exact List.getElem_mem _)
  have hq : (l.getD s 0).toNat < m.length := by omega
  obtain ⟨k1, k2⟩ := names_at hn _ hq
  have hidx : l.idxOf (((l.getD s 0).toNat : Nat) : Int) = s := names_inj hn (by omega) (by omega) (by rw [k2]; omega)
  have hr := ((valid_parts hv).2.2.2.2 s hs).1
  have hx : x.toNat < (m.getD s []).length := by omega
  have hx' : x.toNat < (renRow m l s).length := by rw [renRow, List.length_map]; exact hx
  have e : (renRow m l s).getD x.toNat 0 = l.getD ((m.getD s []).getD x.toNat 0).toNat 0 := by
    rw [getD_elem (renRow m l s) _ hx', getD_elem (m.getD s []) _ hx]
    simp only [renRow, List.getElem_map]
  rw [nx, renM_get m l _ hq, hidx, e, nx]

theorem run_ren {m : List (List Int)} {l : List Int} (hv : validM m = true) (hn : namesM l m.length = true) : ∀ (u : List Int) (s : Nat), s < m.length → u.all (inB 0 ((letters m : Int) - 1)) = true →
    runM (renM m l) (l.getD s 0).toNat u = (l.getD (runM m s u) 0).toNat
  | [], s, _, _ => rfl
  | x :: u, s, hs, hu => by
    obtain ⟨hx, hu'⟩ := all_cons_parts hu
    show runM (renM m l) (nx (renM m l) (l.getD s 0).toNat x) u = (l.getD (runM m (nx m s x) u) 0).toNat
    rw [nx_ren hv hn s hs x hx.1 hx.2]
    exact run_ren hv hn u _ (nx_ok hv hs hx.1 hx.2).1 hu'
end Go.Proofs.YtibaihchnbbokaaDoor
