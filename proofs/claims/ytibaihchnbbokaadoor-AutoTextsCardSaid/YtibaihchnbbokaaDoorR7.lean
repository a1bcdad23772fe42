/-
  The reference: whether two lists of lists are the same.
-/
import Derived.Test.YtibaihchnbbokaaDoorR6
namespace Go.Proofs.YtibaihchnbbokaaDoor
open Go.RowKit Go.Shelf

theorem take_eq_succ' {l m : List (List Int)} {k : Nat} (hk : k < l.length) (hl : l.length = m.length) (h : l.take k = m.take k) (hx : l.getD k [] = m.getD k []) : l.take (k + 1) = m.take (k + 1) := by
  have hk' : k < m.length := by omega
  rw [List.take_succ_eq_append_getElem hk, List.take_succ_eq_append_getElem hk', h]
  simp only [List.getD_eq_getElem?_getD, List.getElem?_eq_getElem hk, List.getElem?_eq_getElem hk', Option.getD_some] at hx
  rw [hx]

theorem rSame_bool (v u : Value) (l m : List Int) (b : Bool) (w : World) (h : Ints w v l) (hu : Ints w u m) (hb : decide (l = m) = b) :
    Calls Tryd.prog 27 #[v, u] w fun e w' => e = .returned (.bool b) ∧ Below w.heap.size w w' := by
  subst hb; exact rSame_any v u l m w h hu

set_option maxHeartbeats 2000000 in
theorem rSames_any (v u : Value) (l m : List (List Int)) (w : World) (h : Rows w v l) (hu : Rows w u m) :
    Calls Tryd.prog 34 #[v, u] w fun e w' => e = .returned (.bool (decide (l = m))) ∧ Below w.heap.size w w' := by
  obtain ⟨A, cap, rfl, hl, hc⟩ := h
  obtain ⟨Au, capu, rfl, hlu, hcu⟩ := hu
  unfold big at hl hlu
  by_cases hlen : l.length = m.length
  · have hne : ((l.length : Int) != (m.length : Int)) = false := by simp; omega
    have Hlen := hid hlen
    have Hc := hid hc
    have Hcu := hid hcu
    clear hlen hc hcu
    go_enter Tryd.func34, Tryd.ntmps34
    go_wp2
    go_loopw [5] (fun i wr => ∃ k : Nat, k ≤ l.length ∧ i = .int .i64 k ∧ l.take k = m.take k ∧ Below w.heap.size w wr) (fun i _ => l.length - (intOf i).toNat)
    case atStart => exact ⟨0, Nat.zero_le _, rfl, rfl, Below.refl _ _⟩
    case round =>
      obtain ⟨k, hk, rfl, htk, hB⟩ := hrel
      have Htk := hid htk
      clear htk
      by_cases hlt : k < l.length
      · have hle := Hlen.out
        obtain ⟨b, off, r, hA, hcell, hrow⟩ := Hc.out k hlt
        obtain ⟨b', off', r', hA', hcell', hrow'⟩ := Hcu.out k (by omega)
        subst hA
        subst hA'
        have c1 := (hB.cell (p := ⟨b, off + k, none⟩) (World.block_lt_of_cell? _ _ hcell)).trans hcell
        have c2 := (hB.cell (p := ⟨b', off' + k, none⟩) (World.block_lt_of_cell? _ _ hcell')).trans hcell'
        have i1 : (k : Int) < l.length := by omega
        have i2 : (k : Int) < m.length := by omega
        have hr1 := hrow.below hB
        have hr2 := hrow'.below hB
        have Hs := hid (fun hx => take_eq_succ' hlt Hlen.out Htk.out hx)
        have Hf : Hid (l.getD k [] ≠ m.getD k [] → decide (l = m) = false) := hid (fun hx => decide_eq_false (fun e => hx (by rw [e])))
        clear hcell hcell' hle hrow hrow'
        generalize l.getD k [] = x at *
        generalize m.getD k [] = y at *
        obtain ⟨Ax, cx, rfl, _⟩ := id hr1
        obtain ⟨Ay, cy, rfl, _⟩ := id hr2
        cases hxy : decide (x = y) with
        | true =>
          go_wp2_with fail
          go_region_with (go_at_call 27; refine (rSame_bool _ _ x y true _ (hr1.below (by first | exact Below.refl _ _ | exact Below.drew (Below.refl _ _))) (hr2.below (by first | exact Below.refl _ _ | exact Below.drew (Below.refl _ _))) hxy).mono ?_; rintro e wA ⟨rfl, hA⟩; have hBA : Below wr.heap.size wr wA := btr (by first | exact Below.refl _ _ | exact Below.drew (Below.refl _ _)) hA)
          all_goals go_wp2
          all_goals go_roundw
          all_goals first
            | exact ⟨k + 1, by omega, by go_num, Hs.out (of_decide_eq_true hxy), btr hB (by first | assumption | exact Below.drew (by assumption))⟩
            | (simp [intOf]; omega)
        | false =>
          go_wp2_with fail
          go_region_with (go_at_call 27; refine (rSame_bool _ _ x y false _ (hr1.below (by first | exact Below.refl _ _ | exact Below.drew (Below.refl _ _))) (hr2.below (by first | exact Below.refl _ _ | exact Below.drew (Below.refl _ _))) hxy).mono ?_; rintro e wA ⟨rfl, hA⟩; have hBA : Below wr.heap.size wr wA := btr (by first | exact Below.refl _ _ | exact Below.drew (Below.refl _ _)) hA)
          all_goals go_wp2
          all_goals go_ret
          all_goals exact ⟨ret_bool (Hf.out (of_decide_eq_false hxy)).symm, btr hB (by first | assumption | exact Below.drew (by assumption))⟩
      · go_wp2
        go_ret
        have h1 := Htk.out
        have h2 := Hlen.out
        rw [List.take_of_length_le (by omega), List.take_of_length_le (by omega)] at h1
        exact ⟨ret_bool (by rw [h1, decide_eq_true rfl]), hB⟩
  · have hne : ((l.length : Int) != (m.length : Int)) = true := by simp; omega
    have Hlen := hid hlen
    clear hlen hc hcu
    go_enter Tryd.func34, Tryd.ntmps34
    go_wp2
    go_ret
    exact ⟨ret_bool (decide_eq_false (fun e => Hlen.out (by rw [e]))).symm, Below.refl _ _⟩
end Go.Proofs.YtibaihchnbbokaaDoor
