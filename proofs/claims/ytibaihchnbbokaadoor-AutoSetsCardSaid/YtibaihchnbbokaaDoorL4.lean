/-
  The law of sets.
-/
import Derived.Test.YtibaihchnbbokaaDoorP4
import Derived.Test.YtibaihchnbbokaaDoorR5
import Derived.Test.YtibaihchnbbokaaDoorL1
import Derived.Deep.CutRange
namespace Go.Proofs.YtibaihchnbbokaaDoor
open Go.RowKit Go.Shelf

theorem Ints.nil (w : World) : Ints w (.slice none 0 0) [] := ⟨none, 0, rfl, by simp, fun i hi => by simp at hi⟩
theorem rSame_nil (w : World) : Calls Tryd.prog 27 #[.slice none 0 0, .slice none 0 0] w fun e w' => e = .returned (.bool true) ∧ Below w.heap.size w w' := rSame_eq _ _ [] w (Ints.nil w) (Ints.nil w)

set_option maxRecDepth 100000 in
set_option maxHeartbeats 2000000 in
theorem sets_form (v s1 u1 : Value) (m : List (List Int)) (sl ul : List Int) (w : World) (hsh : w.ShapedOpen Tryd.prog) (hT : Tab w) (h : Rows w v m) (hs1 : Ints w s1 sl) (hu1 : Ints w u1 ul)
    (hv : validM m = false) :
    Calls Tryd.prog 4 #[.agg #[v], s1, u1] w fun e w' => e = .returned (.bool true) ∧ Below w.heap.size w w' := by
  obtain ⟨A, cap, rfl, _⟩ := id h
  obtain ⟨As, caps, rfl, hl0, _⟩ := id hs1
  obtain ⟨Au, capu, rfl, hl1, _⟩ := id hu1
  have hX := bal (Below.refl _ w) (.cells #[.slice A m.length cap] 24)
  have hbx : (w.alloc (.cells #[.slice A m.length cap] 24)).cell? ⟨w.heap.size, 0, none⟩ = some (.slice A m.length cap) := by simp
  have Hx := hid hX
  go_enter Tryd.func4, Tryd.ntmps4
  go_wp2_with fail
  generalize hWX : w.alloc (.cells #[.slice A m.length cap] 24) = X at *
  clear hX hWX
  have hX := Hx.out
  have hlt : w.heap.size < X.heap.size := World.block_lt_of_cell? _ _ hbx
  have hr := h.below hX
  have hs := hs1.below hX
  have hu := hu1.below hX
  have hTX := hT.on hX
  have B0 := Below.refl X.heap.size X
  refine (Image_form _ _ _ m sl ul _ (hTX.on B0) (hr.below B0) (hs.below B0) (hu.below B0) hv).mono ?_
  rintro e w1 ⟨rfl, h1⟩
  have B1 := btr B0 h1
  have c1 := (B1.cell (p := ⟨w.heap.size, 0, none⟩) hlt).trans hbx
  go_wp2_with fail
  refine (Preimage_form _ _ _ m sl ul _ (hTX.on B1) (hr.below B1) (hs.below B1) (hu.below B1) hv).mono ?_
  rintro e w2 ⟨rfl, h2⟩
  have B2 := btr B1 h2
  have c2 := (B2.cell (p := ⟨w.heap.size, 0, none⟩) hlt).trans hbx
  go_wp2_with fail
  refine (rValid_bool _ m false _ (hr.below B2) hv).mono ?_
  rintro e w3 ⟨rfl, h3⟩
  have B3 := btr B2 h3
  have c3 := (B3.cell (p := ⟨w.heap.size, 0, none⟩) hlt).trans hbx
  go_wp2_with fail
  refine (rSame_nil _).mono ?_
  rintro e w4 ⟨rfl, h4⟩
  have B4 := btr B3 h4
  have c4 := (B4.cell (p := ⟨w.heap.size, 0, none⟩) hlt).trans hbx
  go_wp2_with fail
  refine (rSame_nil _).mono ?_
  rintro e w5 ⟨rfl, h5⟩
  have B5 := btr B4 h5
  have c5 := (B5.cell (p := ⟨w.heap.size, 0, none⟩) hlt).trans hbx
  go_wp2_with fail
  refine (awake_any _ (shaped_below hsh (btr hX B5)) (hT.on (btr hX B5))).mono ?_
  rintro e wz ⟨rfl, hz⟩
  go_wp2
  go_ret
  exact ⟨rfl, btr (btr hX B5) hz⟩

set_option maxRecDepth 100000 in
set_option maxHeartbeats 2000000 in
theorem sets_set (v s1 u1 : Value) (m : List (List Int)) (sl ul : List Int) (w : World) (hsh : w.ShapedOpen Tryd.prog) (hT : Tab w) (h : Rows w v m) (hs1 : Ints w s1 sl) (hu1 : Ints w u1 ul)
    (hv : validM m = true) (hse : isSetM m sl = false) :
    Calls Tryd.prog 4 #[.agg #[v], s1, u1] w fun e w' => e = .returned (.bool true) ∧ Below w.heap.size w w' := by
  obtain ⟨A, cap, rfl, _⟩ := id h
  obtain ⟨As, caps, rfl, hl0, _⟩ := id hs1
  obtain ⟨Au, capu, rfl, hl1, _⟩ := id hu1
  have hX := bal (Below.refl _ w) (.cells #[.slice A m.length cap] 24)
  have hbx : (w.alloc (.cells #[.slice A m.length cap] 24)).cell? ⟨w.heap.size, 0, none⟩ = some (.slice A m.length cap) := by simp
  have Hx := hid hX
  go_enter Tryd.func4, Tryd.ntmps4
  go_wp2_with fail
  generalize hWX : w.alloc (.cells #[.slice A m.length cap] 24) = X at *
  clear hX hWX
  have hX := Hx.out
  have hlt : w.heap.size < X.heap.size := World.block_lt_of_cell? _ _ hbx
  have hr := h.below hX
  have hs := hs1.below hX
  have hu := hu1.below hX
  have hTX := hT.on hX
  have B0 := Below.refl X.heap.size X
  refine (Image_arg _ _ _ m sl ul _ (hTX.on B0) (hr.below B0) (hs.below B0) (hu.below B0) hv (by rw [hse]; rfl)).mono ?_
  rintro e w1 ⟨rfl, h1⟩
  have B1 := btr B0 h1
  have c1 := (B1.cell (p := ⟨w.heap.size, 0, none⟩) hlt).trans hbx
  go_wp2_with fail
  refine (Preimage_arg _ _ _ m sl ul _ (hTX.on B1) (hr.below B1) (hs.below B1) (hu.below B1) hv (by rw [hse]; rfl)).mono ?_
  rintro e w2 ⟨rfl, h2⟩
  have B2 := btr B1 h2
  have c2 := (B2.cell (p := ⟨w.heap.size, 0, none⟩) hlt).trans hbx
  go_wp2_with fail
  refine (rValid_bool _ m true _ (hr.below B2) hv).mono ?_
  rintro e w3 ⟨rfl, h3⟩
  have B3 := btr B2 h3
  have c3 := (B3.cell (p := ⟨w.heap.size, 0, none⟩) hlt).trans hbx
  go_wp2_with fail
  refine (rSet_bool _ _ m sl false _ (hr.below B3) (hs.below B3) hse).mono ?_
  rintro e w4 ⟨rfl, h4⟩
  have B4 := btr B3 h4
  have c4 := (B4.cell (p := ⟨w.heap.size, 0, none⟩) hlt).trans hbx
  go_wp2_with fail
  refine (rSame_nil _).mono ?_
  rintro e w5 ⟨rfl, h5⟩
  have B5 := btr B4 h5
  have c5 := (B5.cell (p := ⟨w.heap.size, 0, none⟩) hlt).trans hbx
  go_wp2_with fail
  refine (rSame_nil _).mono ?_
  rintro e w6 ⟨rfl, h6⟩
  have B6 := btr B5 h6
  have c6 := (B6.cell (p := ⟨w.heap.size, 0, none⟩) hlt).trans hbx
  go_wp2_with fail
  refine (awake_any _ (shaped_below hsh (btr hX B6)) (hT.on (btr hX B6))).mono ?_
  rintro e wz ⟨rfl, hz⟩
  go_wp2
  go_ret
  exact ⟨rfl, btr (btr hX B6) hz⟩

set_option maxRecDepth 100000 in
set_option maxHeartbeats 2000000 in
theorem sets_word (v s1 u1 : Value) (m : List (List Int)) (sl ul : List Int) (w : World) (hsh : w.ShapedOpen Tryd.prog) (hT : Tab w) (h : Rows w v m) (hs1 : Ints w s1 sl) (hu1 : Ints w u1 ul)
    (hv : validM m = true) (hse : isSetM m sl = true) (hwu : isWordM m ul = false) :
    Calls Tryd.prog 4 #[.agg #[v], s1, u1] w fun e w' => e = .returned (.bool true) ∧ Below w.heap.size w w' := by
  obtain ⟨A, cap, rfl, _⟩ := id h
  obtain ⟨As, caps, rfl, hl0, _⟩ := id hs1
  obtain ⟨Au, capu, rfl, hl1, _⟩ := id hu1
  have hX := bal (Below.refl _ w) (.cells #[.slice A m.length cap] 24)
  have hbx : (w.alloc (.cells #[.slice A m.length cap] 24)).cell? ⟨w.heap.size, 0, none⟩ = some (.slice A m.length cap) := by simp
  have Hx := hid hX
  go_enter Tryd.func4, Tryd.ntmps4
  go_wp2_with fail
  generalize hWX : w.alloc (.cells #[.slice A m.length cap] 24) = X at *
  clear hX hWX
  have hX := Hx.out
  have hlt : w.heap.size < X.heap.size := World.block_lt_of_cell? _ _ hbx
  have hr := h.below hX
  have hs := hs1.below hX
  have hu := hu1.below hX
  have hTX := hT.on hX
  have B0 := Below.refl X.heap.size X
  refine (Image_arg _ _ _ m sl ul _ (hTX.on B0) (hr.below B0) (hs.below B0) (hu.below B0) hv (by rw [hse, hwu]; rfl)).mono ?_
  rintro e w1 ⟨rfl, h1⟩
  have B1 := btr B0 h1
  have c1 := (B1.cell (p := ⟨w.heap.size, 0, none⟩) hlt).trans hbx
  go_wp2_with fail
  refine (Preimage_arg _ _ _ m sl ul _ (hTX.on B1) (hr.below B1) (hs.below B1) (hu.below B1) hv (by rw [hse, hwu]; rfl)).mono ?_
  rintro e w2 ⟨rfl, h2⟩
  have B2 := btr B1 h2
  have c2 := (B2.cell (p := ⟨w.heap.size, 0, none⟩) hlt).trans hbx
  go_wp2_with fail
  refine (rValid_bool _ m true _ (hr.below B2) hv).mono ?_
  rintro e w3 ⟨rfl, h3⟩
  have B3 := btr B2 h3
  have c3 := (B3.cell (p := ⟨w.heap.size, 0, none⟩) hlt).trans hbx
  go_wp2_with fail
  refine (rSet_bool _ _ m sl true _ (hr.below B3) (hs.below B3) hse).mono ?_
  rintro e w4 ⟨rfl, h4⟩
  have B4 := btr B3 h4
  have c4 := (B4.cell (p := ⟨w.heap.size, 0, none⟩) hlt).trans hbx
  go_wp2_with fail
  refine (rWord_bool _ _ m ul false _ (hr.below B4) hv (hu.below B4) hwu).mono ?_
  rintro e w5 ⟨rfl, h5⟩
  have B5 := btr B4 h5
  have c5 := (B5.cell (p := ⟨w.heap.size, 0, none⟩) hlt).trans hbx
  go_wp2_with fail
  refine (rSame_nil _).mono ?_
  rintro e w6 ⟨rfl, h6⟩
  have B6 := btr B5 h6
  have c6 := (B6.cell (p := ⟨w.heap.size, 0, none⟩) hlt).trans hbx
  go_wp2_with fail
  refine (rSame_nil _).mono ?_
  rintro e w7 ⟨rfl, h7⟩
  have B7 := btr B6 h7
  have c7 := (B7.cell (p := ⟨w.heap.size, 0, none⟩) hlt).trans hbx
  go_wp2_with fail
  refine (awake_any _ (shaped_below hsh (btr hX B7)) (hT.on (btr hX B7))).mono ?_
  rintro e wz ⟨rfl, hz⟩
  go_wp2
  go_ret
  exact ⟨rfl, btr (btr hX B7) hz⟩

end Go.Proofs.YtibaihchnbbokaaDoor
