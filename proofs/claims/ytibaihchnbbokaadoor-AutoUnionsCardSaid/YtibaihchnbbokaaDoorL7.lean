/-
  The law of unions and complements.
-/
import Derived.Test.YtibaihchnbbokaaDoorP4
import Derived.Test.YtibaihchnbbokaaDoorL1
import Derived.Test.YtibaihchnbbokaaDoorL6
namespace Go.Proofs.YtibaihchnbbokaaDoor
open Go.RowKit Go.Shelf

set_option maxRecDepth 100000 in
set_option maxHeartbeats 1500000 in
theorem unions_valid (v s1 o1 u1 : Value) (m : List (List Int)) (sl ol ul : List Int) (w : World) (hsh : w.ShapedOpen Tryd.prog) (hT : Tab w) (h : Rows w v m) (hs1 : Ints w s1 sl) (ho1 : Ints w o1 ol) (hu1 : Ints w u1 ul)
     (hv : validM m = false) :
    Calls Tryd.prog 8 #[.agg #[v], s1, o1, u1] w fun e w' => e = .returned (.bool true) ∧ Below w.heap.size w w' := by
  obtain ⟨A, cap, rfl, _⟩ := id h
  obtain ⟨As, caps, rfl, _, _⟩ := id hs1
  obtain ⟨Ao, capo, rfl, _, _⟩ := id ho1
  obtain ⟨Au, capu, rfl, _, _⟩ := id hu1
  have hX := bal (Below.refl _ w) (.cells #[.slice A m.length cap] 24)
  have hbx : (w.alloc (.cells #[.slice A m.length cap] 24)).cell? ⟨w.heap.size, 0, none⟩ = some (.slice A m.length cap) := by simp
  have Hx := hid hX
  go_enter Tryd.func8, Tryd.ntmps8
  go_wp2_with fail
  generalize hWX : w.alloc (.cells #[.slice A m.length cap] 24) = X at *
  clear hX hWX
  have hX := Hx.out
  have hlt : w.heap.size < X.heap.size := World.block_lt_of_cell? _ _ hbx
  have hr := h.below hX
  have hs := hs1.below hX
  have ho := ho1.below hX
  have hu := hu1.below hX
  have hTX := hT.on hX
  have B0 := Below.refl X.heap.size X
  refine (rValid_bool _ m false _ (hr.below B0) hv).mono ?_
  rintro e w1 ⟨rfl, h1⟩
  have B1 := btr B0 h1
  have c1 := (B1.cell (p := ⟨w.heap.size, 0, none⟩) hlt).trans hbx
  go_wp2_with fail
  refine (awake_any _ (shaped_below hsh (btr hX B1)) (hT.on (btr hX B1))).mono ?_
  rintro e wz ⟨rfl, hz⟩
  go_wp2
  go_ret
  exact ⟨rfl, btr (btr hX B1) hz⟩

set_option maxRecDepth 100000 in
set_option maxHeartbeats 1500000 in
theorem unions_set (v s1 o1 u1 : Value) (m : List (List Int)) (sl ol ul : List Int) (w : World) (hsh : w.ShapedOpen Tryd.prog) (hT : Tab w) (h : Rows w v m) (hs1 : Ints w s1 sl) (ho1 : Ints w o1 ol) (hu1 : Ints w u1 ul)
    (hv : validM m = true) (hse : isSetM m sl = false) :
    Calls Tryd.prog 8 #[.agg #[v], s1, o1, u1] w fun e w' => e = .returned (.bool true) ∧ Below w.heap.size w w' := by
  obtain ⟨A, cap, rfl, _⟩ := id h
  obtain ⟨As, caps, rfl, _, _⟩ := id hs1
  obtain ⟨Ao, capo, rfl, _, _⟩ := id ho1
  obtain ⟨Au, capu, rfl, _, _⟩ := id hu1
  have hX := bal (Below.refl _ w) (.cells #[.slice A m.length cap] 24)
  have hbx : (w.alloc (.cells #[.slice A m.length cap] 24)).cell? ⟨w.heap.size, 0, none⟩ = some (.slice A m.length cap) := by simp
  have Hx := hid hX
  go_enter Tryd.func8, Tryd.ntmps8
  go_wp2_with fail
  generalize hWX : w.alloc (.cells #[.slice A m.length cap] 24) = X at *
  clear hX hWX
  have hX := Hx.out
  have hlt : w.heap.size < X.heap.size := World.block_lt_of_cell? _ _ hbx
  have hr := h.below hX
  have hs := hs1.below hX
  have ho := ho1.below hX
  have hu := hu1.below hX
  have hTX := hT.on hX
  have B0 := Below.refl X.heap.size X
  refine (rValid_bool _ m true _ (hr.below B0) hv).mono ?_
  rintro e w1 ⟨rfl, h1⟩
  have B1 := btr B0 h1
  have c1 := (B1.cell (p := ⟨w.heap.size, 0, none⟩) hlt).trans hbx
  go_wp2_with fail
  refine (rSet_bool _ _ m sl false _ (hr.below B1) (hs.below B1) hse).mono ?_
  rintro e w2 ⟨rfl, h2⟩
  have B2 := btr B1 h2
  have c2 := (B2.cell (p := ⟨w.heap.size, 0, none⟩) hlt).trans hbx
  go_wp2_with fail
  refine (awake_any _ (shaped_below hsh (btr hX B2)) (hT.on (btr hX B2))).mono ?_
  rintro e wz ⟨rfl, hz⟩
  go_wp2
  go_ret
  exact ⟨rfl, btr (btr hX B2) hz⟩

set_option maxRecDepth 100000 in
set_option maxHeartbeats 1500000 in
theorem unions_other (v s1 o1 u1 : Value) (m : List (List Int)) (sl ol ul : List Int) (w : World) (hsh : w.ShapedOpen Tryd.prog) (hT : Tab w) (h : Rows w v m) (hs1 : Ints w s1 sl) (ho1 : Ints w o1 ol) (hu1 : Ints w u1 ul)
    (hv : validM m = true) (hse : isSetM m sl = true) (hoe : isSetM m ol = false) :
    Calls Tryd.prog 8 #[.agg #[v], s1, o1, u1] w fun e w' => e = .returned (.bool true) ∧ Below w.heap.size w w' := by
  obtain ⟨A, cap, rfl, _⟩ := id h
  obtain ⟨As, caps, rfl, _, _⟩ := id hs1
  obtain ⟨Ao, capo, rfl, _, _⟩ := id ho1
  obtain ⟨Au, capu, rfl, _, _⟩ := id hu1
  have hX := bal (Below.refl _ w) (.cells #[.slice A m.length cap] 24)
  have hbx : (w.alloc (.cells #[.slice A m.length cap] 24)).cell? ⟨w.heap.size, 0, none⟩ = some (.slice A m.length cap) := by simp
  have Hx := hid hX
  go_enter Tryd.func8, Tryd.ntmps8
  go_wp2_with fail
  generalize hWX : w.alloc (.cells #[.slice A m.length cap] 24) = X at *
  clear hX hWX
  have hX := Hx.out
  have hlt : w.heap.size < X.heap.size := World.block_lt_of_cell? _ _ hbx
  have hr := h.below hX
  have hs := hs1.below hX
  have ho := ho1.below hX
  have hu := hu1.below hX
  have hTX := hT.on hX
  have B0 := Below.refl X.heap.size X
  refine (rValid_bool _ m true _ (hr.below B0) hv).mono ?_
  rintro e w1 ⟨rfl, h1⟩
  have B1 := btr B0 h1
  have c1 := (B1.cell (p := ⟨w.heap.size, 0, none⟩) hlt).trans hbx
  go_wp2_with fail
  refine (rSet_bool _ _ m sl true _ (hr.below B1) (hs.below B1) hse).mono ?_
  rintro e w2 ⟨rfl, h2⟩
  have B2 := btr B1 h2
  have c2 := (B2.cell (p := ⟨w.heap.size, 0, none⟩) hlt).trans hbx
  go_wp2_with fail
  refine (rSet_bool _ _ m ol false _ (hr.below B2) (ho.below B2) hoe).mono ?_
  rintro e w3 ⟨rfl, h3⟩
  have B3 := btr B2 h3
  have c3 := (B3.cell (p := ⟨w.heap.size, 0, none⟩) hlt).trans hbx
  go_wp2_with fail
  refine (awake_any _ (shaped_below hsh (btr hX B3)) (hT.on (btr hX B3))).mono ?_
  rintro e wz ⟨rfl, hz⟩
  go_wp2
  go_ret
  exact ⟨rfl, btr (btr hX B3) hz⟩

set_option maxRecDepth 100000 in
set_option maxHeartbeats 1500000 in
theorem unions_word (v s1 o1 u1 : Value) (m : List (List Int)) (sl ol ul : List Int) (w : World) (hsh : w.ShapedOpen Tryd.prog) (hT : Tab w) (h : Rows w v m) (hs1 : Ints w s1 sl) (ho1 : Ints w o1 ol) (hu1 : Ints w u1 ul)
    (hv : validM m = true) (hse : isSetM m sl = true) (hoe : isSetM m ol = true) (hwu : isWordM m ul = false) :
    Calls Tryd.prog 8 #[.agg #[v], s1, o1, u1] w fun e w' => e = .returned (.bool true) ∧ Below w.heap.size w w' := by
  obtain ⟨A, cap, rfl, _⟩ := id h
  obtain ⟨As, caps, rfl, _, _⟩ := id hs1
  obtain ⟨Ao, capo, rfl, _, _⟩ := id ho1
  obtain ⟨Au, capu, rfl, _, _⟩ := id hu1
  have hX := bal (Below.refl _ w) (.cells #[.slice A m.length cap] 24)
  have hbx : (w.alloc (.cells #[.slice A m.length cap] 24)).cell? ⟨w.heap.size, 0, none⟩ = some (.slice A m.length cap) := by simp
  have Hx := hid hX
  go_enter Tryd.func8, Tryd.ntmps8
  go_wp2_with fail
  generalize hWX : w.alloc (.cells #[.slice A m.length cap] 24) = X at *
  clear hX hWX
  have hX := Hx.out
  have hlt : w.heap.size < X.heap.size := World.block_lt_of_cell? _ _ hbx
  have hr := h.below hX
  have hs := hs1.below hX
  have ho := ho1.below hX
  have hu := hu1.below hX
  have hTX := hT.on hX
  have B0 := Below.refl X.heap.size X
  refine (rValid_bool _ m true _ (hr.below B0) hv).mono ?_
  rintro e w1 ⟨rfl, h1⟩
  have B1 := btr B0 h1
  have c1 := (B1.cell (p := ⟨w.heap.size, 0, none⟩) hlt).trans hbx
  go_wp2_with fail
  refine (rSet_bool _ _ m sl true _ (hr.below B1) (hs.below B1) hse).mono ?_
  rintro e w2 ⟨rfl, h2⟩
  have B2 := btr B1 h2
  have c2 := (B2.cell (p := ⟨w.heap.size, 0, none⟩) hlt).trans hbx
  go_wp2_with fail
  refine (rSet_bool _ _ m ol true _ (hr.below B2) (ho.below B2) hoe).mono ?_
  rintro e w3 ⟨rfl, h3⟩
  have B3 := btr B2 h3
  have c3 := (B3.cell (p := ⟨w.heap.size, 0, none⟩) hlt).trans hbx
  go_wp2_with fail
  refine (rWord_bool _ _ m ul false _ (hr.below B3) hv (hu.below B3) hwu).mono ?_
  rintro e w4 ⟨rfl, h4⟩
  have B4 := btr B3 h4
  have c4 := (B4.cell (p := ⟨w.heap.size, 0, none⟩) hlt).trans hbx
  go_wp2_with fail
  refine (awake_any _ (shaped_below hsh (btr hX B4)) (hT.on (btr hX B4))).mono ?_
  rintro e wz ⟨rfl, hz⟩
  go_wp2
  go_ret
  exact ⟨rfl, btr (btr hX B4) hz⟩

end Go.Proofs.YtibaihchnbbokaaDoor
