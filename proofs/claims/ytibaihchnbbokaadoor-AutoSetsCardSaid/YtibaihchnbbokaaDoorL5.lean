/-
  The law of sets, where all arguments are in order.
-/
import Derived.Test.YtibaihchnbbokaaDoorL4
namespace Go.Proofs.YtibaihchnbbokaaDoor
open Go.RowKit Go.Shelf

set_option maxRecDepth 100000 in
set_option maxHeartbeats 2000000 in
theorem sets_ok (v s1 u1 : Value) (m : List (List Int)) (sl ul : List Int) (w : World) (hsh : w.ShapedOpen Tryd.prog) (hT : Tab w) (h : Rows w v m) (hs1 : Ints w s1 sl) (hu1 : Ints w u1 ul)
    (hv : validM m = true) (hse : isSetM m sl = true) (hwu : isWordM m ul = true) :
    Calls Tryd.prog 4 #[.agg #[v], s1, u1] w fun e w' => e = .returned (.bool true) ∧ Below w.heap.size w w' := by
  obtain ⟨A, cap, rfl, _⟩ := id h
  obtain ⟨As, caps, rfl, hl0, _⟩ := id hs1
  obtain ⟨Au, capu, rfl, hl1, _⟩ := id hu1
  have hX := bal (Below.refl _ w) (.cells #[.slice A m.length cap] 24)
  have hbx : (w.alloc (.cells #[.slice A m.length cap] 24)).cell? ⟨w.heap.size, 0, none⟩ = some (.slice A m.length cap) := by simp
  have Hx := hid hX
  go_enter Tryd.func4, Tryd.ntmps4
  go_wp2_with fail
  generalize hWX : w.alloc (.cells #[.slice A m.length cap] 24) = X at *
  clear hX hWX
  have hX := Hx.out
  have hlt : w.heap.size < X.heap.size := World.block_lt_of_cell? _ _ hbx
  have hr := h.below hX
  have hs := hs1.below hX
  have hu := hu1.below hX
  have hTX := hT.on hX
  have B0 := Below.refl X.heap.size X
  refine (Image_ok _ _ _ m sl ul _ (hTX.on B0) (hr.below B0) (hs.below B0) (hu.below B0) hv hse hwu).mono ?_
  rintro e w1 ⟨r0, rfl, i0, h1⟩
  obtain ⟨A0, q0, rfl, _⟩ := id i0
  have B1 := btr B0 h1
  have c1 := (B1.cell (p := ⟨w.heap.size, 0, none⟩) hlt).trans hbx
  go_wp2_with fail
  refine (Preimage_ok _ _ _ m sl ul _ (hTX.on B1) (hr.below B1) (hs.below B1) (hu.below B1) hv hse hwu).mono ?_
  rintro e w2 ⟨r1, rfl, i1, h2⟩
  obtain ⟨A1, q1, rfl, _⟩ := id i1
  have B2 := btr B1 h2
  have c2 := (B2.cell (p := ⟨w.heap.size, 0, none⟩) hlt).trans hbx
  go_wp2_with fail
  refine (rValid_bool _ m true _ (hr.below B2) hv).mono ?_
  rintro e w3 ⟨rfl, h3⟩
  have B3 := btr B2 h3
  have c3 := (B3.cell (p := ⟨w.heap.size, 0, none⟩) hlt).trans hbx
  go_wp2_with fail
  refine (rSet_bool _ _ m sl true _ (hr.below B3) (hs.below B3) hse).mono ?_
  rintro e w4 ⟨rfl, h4⟩
  have B4 := btr B3 h4
  have c4 := (B4.cell (p := ⟨w.heap.size, 0, none⟩) hlt).trans hbx
  go_wp2_with fail
  refine (rWord_bool _ _ m ul true _ (hr.below B4) hv (hu.below B4) hwu).mono ?_
  rintro e w5 ⟨rfl, h5⟩
  have B5 := btr B4 h5
  have c5 := (B5.cell (p := ⟨w.heap.size, 0, none⟩) hlt).trans hbx
  have j0 := i0.below (btr h2 (btr h3 (btr h4 h5)))
  have j1 := i1.below (btr h3 (btr h4 h5))
  have hr5 := hr.below B5
  have hs5 := hs.below B5
  have hu5 := hu.below B5
  have hlt5 : w.heap.size < w5.heap.size := World.block_lt_of_cell? _ _ c5
  clear hr hs hu i0 i1 h1 h2 h3 h4 h5 B1 B2 B3 B4 c1 c2 c3 c4 B0
  go_upto_region 5 with fail
  go_region_with (first
      | (go_at_call 25; refine (rImage_any _ _ _ m sl ul _ (hr5.below (by first | exact Below.refl _ _ | assumption | exact Below.drew (by first | exact Below.refl _ _ | assumption))) (hs5.below (by first | exact Below.refl _ _ | assumption | exact Below.drew (by first | exact Below.refl _ _ | assumption))) (hu5.below (by first | exact Below.refl _ _ | assumption | exact Below.drew (by first | exact Below.refl _ _ | assumption))) hv hse hwu).mono ?_; rintro e wI ⟨rI, rfl, hI, hA⟩; have hBA : Below w5.heap.size w5 wI := btr (by first | exact Below.refl _ _ | assumption | exact Below.drew (by first | exact Below.refl _ _ | assumption)) hA; have hcA := (hBA.cell (p := ⟨w.heap.size, 0, none⟩) hlt5).trans c5; obtain ⟨AI, cI, rfl, _⟩ := id hI; try (have hP' := hP.below (by first | exact hA | exact btr (below_dr _ _) hA)))
      | (go_at_call 26; refine (rPreimage_any _ _ _ m sl ul _ (hr5.below (by first | exact Below.refl _ _ | assumption | exact Below.drew (by first | exact Below.refl _ _ | assumption))) (hs5.below (by first | exact Below.refl _ _ | assumption | exact Below.drew (by first | exact Below.refl _ _ | assumption))) (hu5.below (by first | exact Below.refl _ _ | assumption | exact Below.drew (by first | exact Below.refl _ _ | assumption))) hv hse hwu).mono ?_; rintro e wP ⟨rP, rfl, hP, hA⟩; have hBA : Below w5.heap.size w5 wP := btr (by first | exact Below.refl _ _ | assumption | exact Below.drew (by first | exact Below.refl _ _ | assumption)) hA; have hcA := (hBA.cell (p := ⟨w.heap.size, 0, none⟩) hlt5).trans c5; obtain ⟨AP, cP, rfl, _⟩ := id hP; try (have hI' := hI.below (by first | exact hA | exact btr (below_dr _ _) hA))))
  all_goals go_wp2_with fail
  all_goals refine (rSame_eq _ _ (imageM m sl ul) _ (j0.below hBA) hI').mono ?_
  all_goals rintro e y1 ⟨rfl, f1⟩
  all_goals go_wp2_with fail
  all_goals refine (rSame_eq _ _ (preimageM m sl ul) _ (j1.below (btr hBA f1)) (hP.below f1)).mono ?_
  all_goals rintro e y2 ⟨rfl, f2⟩
  all_goals go_wp2_with fail
  all_goals refine (awake_any _ (shaped_below hsh (btr hX (btr B5 (btr (btr hBA f1) f2)))) (hT.on (btr hX (btr B5 (btr (btr hBA f1) f2))))).mono ?_
  all_goals rintro e wz ⟨rfl, hz⟩
  all_goals go_wp2
  all_goals go_ret
  all_goals exact ⟨rfl, btr (btr hX (btr B5 (btr (btr hBA f1) f2))) hz⟩

theorem sets_any (v s1 u1 : Value) (m : List (List Int)) (sl ul : List Int) (w : World) (hsh : w.ShapedOpen Tryd.prog) (hT : Tab w) (h : Rows w v m) (hs1 : Ints w s1 sl) (hu1 : Ints w u1 ul) :
    Calls Tryd.prog 4 #[.agg #[v], s1, u1] w fun e w' => e = .returned (.bool true) ∧ Below w.heap.size w w' := by
  cases hv : validM m with
  | false => exact sets_form v s1 u1 m sl ul w hsh hT h hs1 hu1 hv
  | true =>
    cases hse : isSetM m sl with
    | false => exact sets_set v s1 u1 m sl ul w hsh hT h hs1 hu1 hv hse
    | true =>
      cases hwu : isWordM m ul with
      | false => exact sets_word v s1 u1 m sl ul w hsh hT h hs1 hu1 hv hse hwu
      | true => exact sets_ok v s1 u1 m sl ul w hsh hT h hs1 hu1 hv hse hwu
end Go.Proofs.YtibaihchnbbokaaDoor
