/-
  The law of the strings of automata.
-/
import Derived.Test.YtibaihchnbbokaaDoorP4
import Derived.Test.YtibaihchnbbokaaDoorR7
import Derived.Test.YtibaihchnbbokaaDoorP9
import Derived.Test.YtibaihchnbbokaaDoorR12
namespace Go.Proofs.YtibaihchnbbokaaDoor
open Go.RowKit Go.Shelf

theorem rSames_refl (v u : Value) (l : List (List Int)) (w : World) (h : Rows w v l) (hu : Rows w u l) : Calls Tryd.prog 34 #[v, u] w fun e w' => e = .returned (.bool true) ∧ Below w.heap.size w w' := by
  have := rSames_any v u l l w h hu
  rwa [decide_eq_true rfl] at this
theorem shape_of_rows {w : World} {v : Value} {m : List (List Int)} (h : Rows w v m) : ∃ A c, v = .slice A m.length c := by obtain ⟨A, c, hv, _⟩ := h; exact ⟨A, c, hv⟩
/-- Text, Parse and the reference's, with the string under a name. -/
theorem Text_as (v : Value) (m : List (List Int)) (tx : ByteArray) (w : World) (h : Rows w v m) (hv : validM m = true) (ht : Hid (strB (textM m) = tx)) :
    Calls Tryd.prog 35 #[.agg #[v]] w fun e w' => e = .returned (.tuple #[.string tx, .int .i64 0]) ∧ Below w.heap.size w w' := by rw [← ht.out]; exact Text_ok v m w h hv
theorem rText_as (v : Value) (m : List (List Int)) (tx : ByteArray) (w : World) (h : Rows w v m) (hv : validM m = true) (ht : Hid (strB (textM m) = tx)) :
    Calls Tryd.prog 37 #[.agg #[v]] w fun e w' => e = .returned (.string tx) ∧ Below w.heap.size w w' := by rw [← ht.out]; exact rText_any v m w h hv
theorem Parse_as (m : List (List Int)) (tx : ByteArray) (w : World) (hsh : w.ShapedOpen Tryd.prog) (hv : validM m = true) (ht : Hid (strB (textM m) = tx)) :
    Calls Tryd.prog 36 #[.string tx] w fun e w' => ∃ v, e = .returned (.tuple #[.agg #[v], .int .i64 0]) ∧ Rows w' v m ∧ Below w.heap.size w w' := by rw [← ht.out]; exact Parse_ok _ m w hsh (reads_text hv) hv rfl
theorem rParse_as (m : List (List Int)) (tx : ByteArray) (w : World) (hv : validM m = true) (ht : Hid (strB (textM m) = tx)) :
    Calls Tryd.prog 38 #[.string tx] w fun e w' => ∃ r, e = .returned (.tuple #[.agg #[r], .bool true]) ∧ Rows w' r m ∧ Below w.heap.size w w' := by rw [← ht.out]; exact rParse_yes m w hv

set_option maxRecDepth 100000 in
set_option maxHeartbeats 2000000 in
theorem texts_vy (v : Value) (m : List (List Int)) (s : ByteArray) (w : World) (hsh : w.ShapedOpen Tryd.prog) (hT : Tab w) (hE : Errs w) (h : Rows w v m)
    (hv : validM m = true) (M : List (List Int)) (hM : validM M = true) (hMs : Hid (strB (textM M) = s)) :
    Calls Tryd.prog 6 #[.agg #[v], .string s] w fun e w' => e = .returned (.bool true) ∧ Below w.heap.size w w' := by
  obtain ⟨A, cap, rfl, _⟩ := id h
  obtain ⟨tx, Htx⟩ : ∃ tx, Hid (strB (textM m) = tx) := ⟨_, hid rfl⟩
  have hX := bal (Below.refl _ w) (.cells #[.slice A m.length cap] 24)
  have hbx : (w.alloc (.cells #[.slice A m.length cap] 24)).cell? ⟨w.heap.size, 0, none⟩ = some (.slice A m.length cap) := by simp
  have Hx := hid hX
  go_enter Tryd.func6, Tryd.ntmps6
  go_wp2_with fail
  generalize hWX : w.alloc (.cells #[.slice A m.length cap] 24) = X at *
  clear hX hWX
  have hX := Hx.out
  have hlt : w.heap.size < X.heap.size := World.block_lt_of_cell? _ _ hbx
  have hr := h.below hX
  have B0 := Below.refl X.heap.size X
  refine (Text_as _ m tx _ (hr.below B0) hv Htx).mono ?_
  rintro e w1 ⟨rfl, h1⟩
  have B1 := btr B0 h1
  have c1 := (B1.cell (p := ⟨w.heap.size, 0, none⟩) hlt).trans hbx
  go_wp2_with fail
  refine (rValid_bool _ m true _ (hr.below B1) hv).mono ?_
  rintro e w2 ⟨rfl, h2⟩
  have B2 := btr B1 h2
  have c2 := (B2.cell (p := ⟨w.heap.size, 0, none⟩) hlt).trans hbx
  go_wp2_with fail
  refine (Parse_as m tx _ (shaped_below hsh (btr hX B2)) hv Htx).mono ?_
  rintro e y1 ⟨r1, rfl, i1, k1⟩
  obtain ⟨A1, q1, rfl⟩ := shape_of_rows i1
  have B3 := bal (btr B2 k1) (.cells #[.slice A1 m.length q1] 24)
  have c3 := (B3.cell (p := ⟨w.heap.size, 0, none⟩) hlt).trans hbx
  have b3 : (y1.alloc (.cells #[.slice A1 m.length q1] 24)).cell? ⟨y1.heap.size, 0, none⟩ = some (.slice A1 m.length q1) := by simp
  have hy1 : y1.heap.size < (y1.alloc (.cells #[.slice A1 m.length q1] 24)).heap.size := by simp
  have j1 := i1.alloc (.cells #[.slice A1 m.length q1] 24)
  go_wp2_with fail
  generalize hYY : y1.alloc (.cells #[.slice A1 m.length q1] 24) = Y at *
  clear hYY i1 k1
  refine (rText_as _ m tx _ (hr.below B3) hv Htx).mono ?_
  rintro e w4 ⟨rfl, h4⟩
  have B4 := btr B3 h4
  have c4 := (B4.cell (p := ⟨w.heap.size, 0, none⟩) hlt).trans hbx
  have b4 := (h4.cell (p := ⟨y1.heap.size, 0, none⟩) hy1).trans b3
  have j4 := j1.below h4
  go_wp2_with fail
  refine (rSames_refl _ _ m _ (hr.below B4) j4).mono ?_
  rintro e w5 ⟨rfl, h5⟩
  have B5 := btr B4 h5
  go_wp2_with fail
  refine (rParse_as M s _ hM hMs).mono ?_
  rintro e v1 ⟨r2, rfl, i2, k2⟩
  obtain ⟨A2, q2, rfl⟩ := shape_of_rows i2
  have D1 := bal (btr B5 k2) (.cells #[.slice A2 M.length q2] 24)
  have b5 : (v1.alloc (.cells #[.slice A2 M.length q2] 24)).cell? ⟨v1.heap.size, 0, none⟩ = some (.slice A2 M.length q2) := by simp
  have hv1 : v1.heap.size < (v1.alloc (.cells #[.slice A2 M.length q2] 24)).heap.size := by simp
  have j2 := i2.alloc (.cells #[.slice A2 M.length q2] 24)
  go_wp2_with fail
  generalize hVV : v1.alloc (.cells #[.slice A2 M.length q2] 24) = V at *
  clear hVV i2 k2
  refine (Parse_as M s _ (shaped_below hsh (btr hX D1)) hM hMs).mono ?_
  rintro e v2 ⟨r3, rfl, i3, k3⟩
  obtain ⟨A3, q3, rfl⟩ := shape_of_rows i3
  have b6 := (k3.cell (p := ⟨v1.heap.size, 0, none⟩) hv1).trans b5
  have hv12 : v1.heap.size < v2.heap.size := World.block_lt_of_cell? _ _ b6
  have D2 := bal (btr D1 k3) (.cells #[.slice A3 M.length q3] 24)
  have E3 := bal k3 (.cells #[.slice A3 M.length q3] 24)
  have b7 := (E3.cell (p := ⟨v1.heap.size, 0, none⟩) hv1).trans b5
  have b8 : (v2.alloc (.cells #[.slice A3 M.length q3] 24)).cell? ⟨v2.heap.size, 0, none⟩ = some (.slice A3 M.length q3) := by simp
  have j3 := i3.alloc (.cells #[.slice A3 M.length q3] 24)
  have j22 := j2.below E3
  go_wp2_with fail
  generalize hUU : v2.alloc (.cells #[.slice A3 M.length q3] 24) = U at *
  clear hUU
  refine (rSames_refl _ _ M _ j3 j22).mono ?_
  rintro e x1 ⟨rfl, o1⟩
  have D3 := btr D2 o1
  go_wp2_with fail
  refine (awake_any _ (shaped_below hsh (btr hX D3)) (hT.on (btr hX D3))).mono ?_
  rintro e wz ⟨rfl, hz⟩
  go_wp2
  go_ret
  exact ⟨rfl, btr (btr hX D3) hz⟩

set_option maxRecDepth 100000 in
set_option maxHeartbeats 2000000 in
theorem texts_vn (v : Value) (m : List (List Int)) (s : ByteArray) (w : World) (hsh : w.ShapedOpen Tryd.prog) (hT : Tab w) (hE : Errs w) (h : Rows w v m)
    (hv : validM m = true) (hno : Hid (∀ M, validM M = true → strB (textM M) ≠ s)) :
    Calls Tryd.prog 6 #[.agg #[v], .string s] w fun e w' => e = .returned (.bool true) ∧ Below w.heap.size w w' := by
  obtain ⟨A, cap, rfl, _⟩ := id h
  obtain ⟨tx, Htx⟩ : ∃ tx, Hid (strB (textM m) = tx) := ⟨_, hid rfl⟩
  have hX := bal (Below.refl _ w) (.cells #[.slice A m.length cap] 24)
  have hbx : (w.alloc (.cells #[.slice A m.length cap] 24)).cell? ⟨w.heap.size, 0, none⟩ = some (.slice A m.length cap) := by simp
  have Hx := hid hX
  go_enter Tryd.func6, Tryd.ntmps6
  go_wp2_with fail
  generalize hWX : w.alloc (.cells #[.slice A m.length cap] 24) = X at *
  clear hX hWX
  have hX := Hx.out
  have hlt : w.heap.size < X.heap.size := World.block_lt_of_cell? _ _ hbx
  have hr := h.below hX
  have B0 := Below.refl X.heap.size X
  refine (Text_as _ m tx _ (hr.below B0) hv Htx).mono ?_
  rintro e w1 ⟨rfl, h1⟩
  have B1 := btr B0 h1
  have c1 := (B1.cell (p := ⟨w.heap.size, 0, none⟩) hlt).trans hbx
  go_wp2_with fail
  refine (rValid_bool _ m true _ (hr.below B1) hv).mono ?_
  rintro e w2 ⟨rfl, h2⟩
  have B2 := btr B1 h2
  have c2 := (B2.cell (p := ⟨w.heap.size, 0, none⟩) hlt).trans hbx
  go_wp2_with fail
  refine (Parse_as m tx _ (shaped_below hsh (btr hX B2)) hv Htx).mono ?_
  rintro e y1 ⟨r1, rfl, i1, k1⟩
  obtain ⟨A1, q1, rfl⟩ := shape_of_rows i1
  have B3 := bal (btr B2 k1) (.cells #[.slice A1 m.length q1] 24)
  have c3 := (B3.cell (p := ⟨w.heap.size, 0, none⟩) hlt).trans hbx
  have b3 : (y1.alloc (.cells #[.slice A1 m.length q1] 24)).cell? ⟨y1.heap.size, 0, none⟩ = some (.slice A1 m.length q1) := by simp
  have hy1 : y1.heap.size < (y1.alloc (.cells #[.slice A1 m.length q1] 24)).heap.size := by simp
  have j1 := i1.alloc (.cells #[.slice A1 m.length q1] 24)
  go_wp2_with fail
  generalize hYY : y1.alloc (.cells #[.slice A1 m.length q1] 24) = Y at *
  clear hYY i1 k1
  refine (rText_as _ m tx _ (hr.below B3) hv Htx).mono ?_
  rintro e w4 ⟨rfl, h4⟩
  have B4 := btr B3 h4
  have c4 := (B4.cell (p := ⟨w.heap.size, 0, none⟩) hlt).trans hbx
  have b4 := (h4.cell (p := ⟨y1.heap.size, 0, none⟩) hy1).trans b3
  have j4 := j1.below h4
  go_wp2_with fail
  refine (rSames_refl _ _ m _ (hr.below B4) j4).mono ?_
  rintro e w5 ⟨rfl, h5⟩
  have B5 := btr B4 h5
  go_wp2_with fail
  refine (rParse_no s _ hno.out).mono ?_
  rintro e v1 ⟨A2, q2, rfl, k2⟩
  have D1 := bal (btr B5 k2) (.cells #[.slice A2 0 q2] 24)
  go_wp2_with fail
  generalize hVV : v1.alloc (.cells #[.slice A2 0 q2] 24) = V at *
  clear hVV k2
  refine (Parse_none s _ (shaped_below hsh (btr hX D1)) (hE.below (btr hX D1)) hno.out).mono ?_
  rintro e v2 ⟨rfl, k3⟩
  have D2 := bal (btr D1 k3) (.cells #[.slice none 0 0] 24)
  have b8 : (v2.alloc (.cells #[.slice none 0 0] 24)).cell? ⟨v2.heap.size, 0, none⟩ = some (.slice none 0 0) := by simp
  go_wp2_with fail
  generalize hUU : v2.alloc (.cells #[.slice none 0 0] 24) = U at *
  clear hUU
  refine (awake_any _ (shaped_below hsh (btr hX D2)) (hT.on (btr hX D2))).mono ?_
  rintro e wz ⟨rfl, hz⟩
  go_wp2
  go_ret
  exact ⟨rfl, btr (btr hX D2) hz⟩

set_option maxRecDepth 100000 in
set_option maxHeartbeats 2000000 in
theorem texts_iy (v : Value) (m : List (List Int)) (s : ByteArray) (w : World) (hsh : w.ShapedOpen Tryd.prog) (hT : Tab w) (hE : Errs w) (h : Rows w v m)
    (hv : validM m = false) (M : List (List Int)) (hM : validM M = true) (hMs : Hid (strB (textM M) = s)) :
    Calls Tryd.prog 6 #[.agg #[v], .string s] w fun e w' => e = .returned (.bool true) ∧ Below w.heap.size w w' := by
  obtain ⟨A, cap, rfl, _⟩ := id h
  obtain ⟨tx, Htx⟩ : ∃ tx, Hid (strB (textM m) = tx) := ⟨_, hid rfl⟩
  have hX := bal (Below.refl _ w) (.cells #[.slice A m.length cap] 24)
  have hbx : (w.alloc (.cells #[.slice A m.length cap] 24)).cell? ⟨w.heap.size, 0, none⟩ = some (.slice A m.length cap) := by simp
  have Hx := hid hX
  go_enter Tryd.func6, Tryd.ntmps6
  go_wp2_with fail
  generalize hWX : w.alloc (.cells #[.slice A m.length cap] 24) = X at *
  clear hX hWX
  have hX := Hx.out
  have hlt : w.heap.size < X.heap.size := World.block_lt_of_cell? _ _ hbx
  have hr := h.below hX
  have B0 := Below.refl X.heap.size X
  refine (Text_form _ m _ (hr.below B0) hv).mono ?_
  rintro e w1 ⟨rfl, h1⟩
  have B1 := btr B0 h1
  have c1 := (B1.cell (p := ⟨w.heap.size, 0, none⟩) hlt).trans hbx
  go_wp2_with fail
  refine (rValid_bool _ m false _ (hr.below B1) hv).mono ?_
  rintro e w2 ⟨rfl, h2⟩
  have B2 := btr B1 h2
  have c2 := (B2.cell (p := ⟨w.heap.size, 0, none⟩) hlt).trans hbx
  go_wp2_with fail
  refine (rParse_as M s _ hM hMs).mono ?_
  rintro e v1 ⟨r2, rfl, i2, k2⟩
  obtain ⟨A2, q2, rfl⟩ := shape_of_rows i2
  have D1 := bal (btr B2 k2) (.cells #[.slice A2 M.length q2] 24)
  have b5 : (v1.alloc (.cells #[.slice A2 M.length q2] 24)).cell? ⟨v1.heap.size, 0, none⟩ = some (.slice A2 M.length q2) := by simp
  have hv1 : v1.heap.size < (v1.alloc (.cells #[.slice A2 M.length q2] 24)).heap.size := by simp
  have j2 := i2.alloc (.cells #[.slice A2 M.length q2] 24)
  go_wp2_with fail
  generalize hVV : v1.alloc (.cells #[.slice A2 M.length q2] 24) = V at *
  clear hVV i2 k2
  refine (Parse_as M s _ (shaped_below hsh (btr hX D1)) hM hMs).mono ?_
  rintro e v2 ⟨r3, rfl, i3, k3⟩
  obtain ⟨A3, q3, rfl⟩ := shape_of_rows i3
  have b6 := (k3.cell (p := ⟨v1.heap.size, 0, none⟩) hv1).trans b5
  have hv12 : v1.heap.size < v2.heap.size := World.block_lt_of_cell? _ _ b6
  have D2 := bal (btr D1 k3) (.cells #[.slice A3 M.length q3] 24)
  have E3 := bal k3 (.cells #[.slice A3 M.length q3] 24)
  have b7 := (E3.cell (p := ⟨v1.heap.size, 0, none⟩) hv1).trans b5
  have b8 : (v2.alloc (.cells #[.slice A3 M.length q3] 24)).cell? ⟨v2.heap.size, 0, none⟩ = some (.slice A3 M.length q3) := by simp
  have j3 := i3.alloc (.cells #[.slice A3 M.length q3] 24)
  have j22 := j2.below E3
  go_wp2_with fail
  generalize hUU : v2.alloc (.cells #[.slice A3 M.length q3] 24) = U at *
  clear hUU
  refine (rSames_refl _ _ M _ j3 j22).mono ?_
  rintro e x1 ⟨rfl, o1⟩
  have D3 := btr D2 o1
  go_wp2_with fail
  refine (awake_any _ (shaped_below hsh (btr hX D3)) (hT.on (btr hX D3))).mono ?_
  rintro e wz ⟨rfl, hz⟩
  go_wp2
  go_ret
  exact ⟨rfl, btr (btr hX D3) hz⟩

set_option maxRecDepth 100000 in
set_option maxHeartbeats 2000000 in
theorem texts_in (v : Value) (m : List (List Int)) (s : ByteArray) (w : World) (hsh : w.ShapedOpen Tryd.prog) (hT : Tab w) (hE : Errs w) (h : Rows w v m)
    (hv : validM m = false) (hno : Hid (∀ M, validM M = true → strB (textM M) ≠ s)) :
    Calls Tryd.prog 6 #[.agg #[v], .string s] w fun e w' => e = .returned (.bool true) ∧ Below w.heap.size w w' := by
  obtain ⟨A, cap, rfl, _⟩ := id h
  obtain ⟨tx, Htx⟩ : ∃ tx, Hid (strB (textM m) = tx) := ⟨_, hid rfl⟩
  have hX := bal (Below.refl _ w) (.cells #[.slice A m.length cap] 24)
  have hbx : (w.alloc (.cells #[.slice A m.length cap] 24)).cell? ⟨w.heap.size, 0, none⟩ = some (.slice A m.length cap) := by simp
  have Hx := hid hX
  go_enter Tryd.func6, Tryd.ntmps6
  go_wp2_with fail
  generalize hWX : w.alloc (.cells #[.slice A m.length cap] 24) = X at *
  clear hX hWX
  have hX := Hx.out
  have hlt : w.heap.size < X.heap.size := World.block_lt_of_cell? _ _ hbx
  have hr := h.below hX
  have B0 := Below.refl X.heap.size X
  refine (Text_form _ m _ (hr.below B0) hv).mono ?_
  rintro e w1 ⟨rfl, h1⟩
  have B1 := btr B0 h1
  have c1 := (B1.cell (p := ⟨w.heap.size, 0, none⟩) hlt).trans hbx
  go_wp2_with fail
  refine (rValid_bool _ m false _ (hr.below B1) hv).mono ?_
  rintro e w2 ⟨rfl, h2⟩
  have B2 := btr B1 h2
  have c2 := (B2.cell (p := ⟨w.heap.size, 0, none⟩) hlt).trans hbx
  go_wp2_with fail
  refine (rParse_no s _ hno.out).mono ?_
  rintro e v1 ⟨A2, q2, rfl, k2⟩
  have D1 := bal (btr B2 k2) (.cells #[.slice A2 0 q2] 24)
  go_wp2_with fail
  generalize hVV : v1.alloc (.cells #[.slice A2 0 q2] 24) = V at *
  clear hVV k2
  refine (Parse_none s _ (shaped_below hsh (btr hX D1)) (hE.below (btr hX D1)) hno.out).mono ?_
  rintro e v2 ⟨rfl, k3⟩
  have D2 := bal (btr D1 k3) (.cells #[.slice none 0 0] 24)
  have b8 : (v2.alloc (.cells #[.slice none 0 0] 24)).cell? ⟨v2.heap.size, 0, none⟩ = some (.slice none 0 0) := by simp
  go_wp2_with fail
  generalize hUU : v2.alloc (.cells #[.slice none 0 0] 24) = U at *
  clear hUU
  refine (awake_any _ (shaped_below hsh (btr hX D2)) (hT.on (btr hX D2))).mono ?_
  rintro e wz ⟨rfl, hz⟩
  go_wp2
  go_ret
  exact ⟨rfl, btr (btr hX D2) hz⟩

theorem texts_any (v : Value) (m : List (List Int)) (s : ByteArray) (w : World) (hsh : w.ShapedOpen Tryd.prog) (hT : Tab w) (hE : Errs w) (h : Rows w v m) :
    Calls Tryd.prog 6 #[.agg #[v], .string s] w fun e w' => e = .returned (.bool true) ∧ Below w.heap.size w w' := by
  by_cases hy : ∃ M, validM M = true ∧ strB (textM M) = s
  · obtain ⟨M, hM, hs⟩ := hy
    cases hv : validM m with
    | true => exact texts_vy v m s w hsh hT hE h hv M hM (hid hs)
    | false => exact texts_iy v m s w hsh hT hE h hv M hM (hid hs)
  · have hno : Hid (∀ M, validM M = true → strB (textM M) ≠ s) := hid (fun M hM e => hy ⟨M, hM, e⟩)
    cases hv : validM m with
    | true => exact texts_vn v m s w hsh hT hE h hv hno
    | false => exact texts_in v m s w hsh hT hE h hv hno
end Go.Proofs.YtibaihchnbbokaaDoor
