/-
  The law of what Renamed and Power return.
-/
import Derived.Test.YtibaihchnbbokaaDoorP4
import Derived.Test.YtibaihchnbbokaaDoorL1
import Derived.Test.YtibaihchnbbokaaDoorR9
import Derived.Test.YtibaihchnbbokaaDoorR7
import Derived.Test.YtibaihchnbbokaaDoorL9
namespace Go.Proofs.YtibaihchnbbokaaDoor
open Go.RowKit Go.Shelf

/-- An automaton, and a number; where that is an error, none. -/
def AutoRes (w : World) (n : Int) (R : List (List Int)) (e : Ending) (w' : World) : Prop := ∃ r, e = .returned (.tuple #[.agg #[r], .int .i64 n]) ∧ Rows w' r R ∧ Below w.heap.size w w'
theorem rows_nil (w : World) : Rows w (.slice none 0 0) [] := ⟨none, 0, rfl, by simp, fun i hi => by simp at hi⟩
theorem res_err {w : World} {n : Int} {e : Ending} {w' : World} (h : AutoErr w n e w') : AutoRes w n [] e w' := ⟨_, h.1, rows_nil w', h.2⟩

theorem Renamed_res0 (v u : Value) (m : List (List Int)) (l : List Int) (w : World) (h : Rows w v m) (hu : Ints w u l) (hv : validM m = false) :
    Calls Tryd.prog 28 #[.agg #[v], u] w (AutoRes w 1 []) := (Renamed_form v u m l w h hu hv).mono fun _ _ h => res_err h
theorem Renamed_res1 (v u : Value) (m : List (List Int)) (l : List Int) (w : World) (h : Rows w v m) (hu : Ints w u l) (hv : validM m = true) (hn : namesM l m.length = false) :
    Calls Tryd.prog 28 #[.agg #[v], u] w (AutoRes w 2 []) := by
  have hm := (valid_parts hv).2.1
  refine (?_ : Calls Tryd.prog 28 #[.agg #[v], u] w (AutoErr w 2)).mono fun _ _ h => res_err h
  by_cases h1 : l.length = m.length
  · cases h2 : l.all (inB 0 ((m.length : Int) - 1)) with
    | false => exact Renamed_states v u m l w h hu hv h1 h2
    | true =>
      refine Renamed_twice v u m l w h hu hv h1 h2 (fun h3 => ?_)
      rw [names_iff (by omega), decide_eq_true h1, h2, decide_eq_true h3] at hn
      cases hn
  · exact Renamed_len v u m l w h hu hv h1
theorem Renamed_res2 (v u : Value) (m R : List (List Int)) (l : List Int) (w : World) (h : Rows w v m) (hu : Ints w u l) (hv : validM m = true) (hn : namesM l m.length = true) (hR : Hid (renM m l = R)) :
    Calls Tryd.prog 28 #[.agg #[v], u] w (AutoRes w 0 R) := (Renamed_as v u m R l w h hu hv hn hR).mono fun _ _ h => h
theorem Power_res0 (v u : Value) (m ws : List (List Int)) (w : World) (h : Rows w v m) (hu : Rows w u ws) (hv : validM m = false) :
    Calls Tryd.prog 29 #[.agg #[v], u] w (AutoRes w 1 []) := (Power_form v u m ws w h hu hv).mono fun _ _ h => res_err h
theorem Power_res1 (v u : Value) (m ws : List (List Int)) (w : World) (h : Rows w v m) (hu : Rows w u ws) (hv : validM m = true) (hn : wordsM m ws = false) :
    Calls Tryd.prog 29 #[.agg #[v], u] w (AutoRes w 2 []) := by
  refine (?_ : Calls Tryd.prog 29 #[.agg #[v], u] w (AutoErr w 2)).mono fun _ _ h => res_err h
  cases h1 : inB 1 6 ws.length with
  | false => exact Power_count v u m ws w h hu hv h1
  | true =>
    refine Power_word v u m ws w h hu hv h1 ?_
    rw [wordsM, h1] at hn
    simpa using hn
theorem Power_res2 (v u : Value) (m R ws : List (List Int)) (w : World) (h : Rows w v m) (hu : Rows w u ws) (hv : validM m = true) (hn : wordsM m ws = true) (hR : Hid (powerM m ws = R)) :
    Calls Tryd.prog 29 #[.agg #[v], u] w (AutoRes w 0 R) := (Power_as v u m ws R w h hu hv hn hR).mono fun _ _ h => h

/-- The reference's, with the result under a name. -/
theorem rRenamed_as (v u : Value) (m R : List (List Int)) (l : List Int) (w : World) (h : Rows w v m) (hu : Ints w u l) (hv : validM m = true) (hnm : namesM l m.length = true) (hR : Hid (renM m l = R)) :
    Calls Tryd.prog 31 #[.agg #[v], u] w fun e w' => ∃ r, e = .returned (.agg #[r]) ∧ MRows w' w.heap.size r R ∧ Below w.heap.size w w' := by
  rw [← hR.out]; exact rRenamed_any v u m l w h hu hv hnm
theorem rPower_as (v u : Value) (m ws R : List (List Int)) (w : World) (h : Rows w v m) (hu : Rows w u ws) (hv : validM m = true) (hw : wordsM m ws = true) (hR : Hid (powerM m ws = R)) :
    Calls Tryd.prog 33 #[.agg #[v], u] w fun e w' => ∃ r, e = .returned (.agg #[r]) ∧ MRows w' w.heap.size r R ∧ Below w.heap.size w w' := by
  rw [← hR.out]; exact rPower_any v u m ws w h hu hv hw
theorem rSames_eq (v u : Value) (l : List (List Int)) (w : World) (h : Rows w v l) (hu : Rows w u l) : Calls Tryd.prog 34 #[v, u] w fun e w' => e = .returned (.bool true) ∧ Below w.heap.size w w' := by
  have := rSames_any v u l l w h hu
  rwa [decide_eq_true rfl] at this
theorem shape_rows {w : World} {v : Value} {m : List (List Int)} (h : Rows w v m) : ∃ A c, v = .slice A m.length c := by obtain ⟨A, c, hv, _⟩ := h; exact ⟨A, c, hv⟩

set_option maxRecDepth 100000 in
set_option maxHeartbeats 2000000 in
theorem makes_form (v n1 ws1 : Value) (m ws : List (List Int)) (nl : List Int) (w : World) (hsh : w.ShapedOpen Tryd.prog) (hT : Tab w) (h : Rows w v m) (hn1 : Ints w n1 nl) (hws : Rows w ws1 ws)
    (hv : validM m = false) :
    Calls Tryd.prog 5 #[.agg #[v], n1, ws1] w fun e w' => e = .returned (.bool true) ∧ Below w.heap.size w w' := by
  obtain ⟨A, cap, rfl, _⟩ := id h
  obtain ⟨An, capn, rfl, _, _⟩ := id hn1
  obtain ⟨Aw, capw, rfl, _, _⟩ := id hws
  have hX := bal (Below.refl _ w) (.cells #[.slice A m.length cap] 24)
  have hbx : (w.alloc (.cells #[.slice A m.length cap] 24)).cell? ⟨w.heap.size, 0, none⟩ = some (.slice A m.length cap) := by simp
  have Hx := hid hX
  go_enter Tryd.func5, Tryd.ntmps5
  go_wp2_with fail
  generalize hWX : w.alloc (.cells #[.slice A m.length cap] 24) = X at *
  clear hX hWX
  have hX := Hx.out
  have hlt : w.heap.size < X.heap.size := World.block_lt_of_cell? _ _ hbx
  have hr := h.below hX
  have hnn := hn1.below hX
  have hww := hws.below hX
  refine (Renamed_res0 _ _ m nl _ hr hnn hv).mono ?_
  rintro e y1 ⟨r1, rfl, i1, k1⟩
  obtain ⟨A1, q1, rfl⟩ : ∃ A c, r1 = .slice A 0 c := shape_rows i1
  have C1 := bal k1 (.cells #[.slice A1 0 q1] 24)
  have d1 := (C1.cell (p := ⟨w.heap.size, 0, none⟩) hlt).trans hbx
  have b1 : (y1.alloc (.cells #[.slice A1 0 q1] 24)).cell? ⟨y1.heap.size, 0, none⟩ = some (.slice A1 0 q1) := by simp
  have hy1 : y1.heap.size < (y1.alloc (.cells #[.slice A1 0 q1] 24)).heap.size := by simp
  have j1 := i1.alloc (.cells #[.slice A1 0 q1] 24)
  go_wp2_with fail
  generalize hYY : y1.alloc (.cells #[.slice A1 0 q1] 24) = Y at *
  clear hYY i1 k1
  refine (Power_res0 _ _ m ws _ (hr.below C1) (hww.below C1) hv).mono ?_
  rintro e y2 ⟨r2, rfl, i2, k2⟩
  obtain ⟨A2, q2, rfl⟩ : ∃ A c, r2 = .slice A 0 c := shape_rows i2
  have E2 := bal (bal (bal (Below.refl _ y2) (.cells #[.slice A2 0 q2] 24)) (.cells #[.slice none 0 0] 24)) (.cells #[.slice none 0 0] 24)
  have D2 := btr k2 E2
  obtain ⟨g2, g3, g4⟩ := three_alloc y2 (.cells #[.slice A2 0 q2] 24) (.cells #[.slice none 0 0] 24) (.cells #[.slice none 0 0] 24)
  have C2 := btr C1 D2
  have d2 := (C2.cell (p := ⟨w.heap.size, 0, none⟩) hlt).trans hbx
  have b2 := (D2.cell (p := ⟨y1.heap.size, 0, none⟩) hy1).trans b1
  have s4 : (((y2.alloc (.cells #[.slice A2 0 q2] 24)).alloc (.cells #[.slice none 0 0] 24)).alloc (.cells #[.slice none 0 0] 24)).heap.size = y2.heap.size + 3 := by simp
  have d2a := ((btr C1 k2).cell (p := ⟨w.heap.size, 0, none⟩) hlt).trans hbx
  have hYy : Y.heap.size ≤ y2.heap.size := k2.size
  have hXy : X.heap.size ≤ Y.heap.size := C1.size
  have H4 := hid s4
  clear s4
  go_upto_region 6 with fail
  have s4 := H4.out
  generalize hZZ : ((y2.alloc (.cells #[.slice A2 0 q2] 24)).alloc (.cells #[.slice none 0 0] 24)).alloc (.cells #[.slice none 0 0] 24) = Z at *
  have z0 : y2.heap.size + 3 ≤ Z.heap.size := Nat.le_of_eq s4.symm
  clear hZZ k2 b1 d1 C1 s4 H4 d2a
  have p2 := cell_of_one g2
  have B0 : Below (y2.heap.size + 1) Z Z := Below.refl _ _
  have N0 := g3
  have M0 := g4
  have K0 := C2
  go_wp2_with fail
  refine (rValid_bool _ m false _ (hr.below K0) hv).mono ?_
  rintro e w1 ⟨rfl, h1⟩
  have z1 : y2.heap.size + 3 ≤ w1.heap.size := by have := h1.size; omega
  have B1 := B0.trans (h1.mono (by omega))
  have N1 := (h1.block _ (by omega)).trans N0
  have M1 := (h1.block _ (by omega)).trans M0
  have e1 := (B1.cell (p := ⟨w.heap.size, 0, none⟩) (by show w.heap.size < _; omega)).trans d2
  have K1 := C2.trans (B1.mono (by omega))
  go_wp2_with fail
  refine (rValid_bool _ m false _ (hr.below K1) hv).mono ?_
  rintro e v1 ⟨rfl, l1⟩
  have z2 : y2.heap.size + 3 ≤ v1.heap.size := by have := l1.size; omega
  have B2 := B1.trans (l1.mono (by omega))
  have N2 := (l1.block _ (by omega)).trans N1
  have M2 := (l1.block _ (by omega)).trans M1
  have e2 := (B2.cell (p := ⟨w.heap.size, 0, none⟩) (by show w.heap.size < _; omega)).trans d2
  have K2 := C2.trans (B2.mono (by omega))
  have T1 := j1.below (D2.trans (B2.mono (by omega)))
  have T2 := i2.below (E2.trans (B2.mono (by omega)))
  have n9 := cell_of_one N2
  have m9 := cell_of_one M2
  have p9 := (B2.cell (p := ⟨y2.heap.size, 0, none⟩) (Nat.lt_succ_self _)).trans p2
  have f9 := (B2.cell (p := ⟨y1.heap.size, 0, none⟩) (by show y1.heap.size < _; omega)).trans b2
  go_wp2_with fail
  refine (rSames_eq _ _ [] _ T1 (rows_nil _)).mono ?_
  rintro e x1 ⟨rfl, o1⟩
  have p10 := (o1.cell (p := ⟨y2.heap.size, 0, none⟩) (by show y2.heap.size < _; omega)).trans p9
  have m10 := (o1.cell (p := ⟨y2.heap.size + 2, 0, none⟩) (by show y2.heap.size + 2 < _; omega)).trans m9
  go_wp2_with fail
  refine (rSames_eq _ _ [] _ (T2.below o1) (rows_nil _)).mono ?_
  rintro e x2 ⟨rfl, o2⟩
  have HX := btr (btr (btr hX K2) o1) o2
  go_wp2_with fail
  refine (awake_any _ (shaped_below hsh HX) (hT.on HX)).mono ?_
  rintro e wz ⟨rfl, hz⟩
  go_wp2
  go_ret
  exact ⟨rfl, btr HX hz⟩

set_option maxRecDepth 100000 in
set_option maxHeartbeats 2000000 in
theorem makes_ff (v n1 ws1 : Value) (m ws : List (List Int)) (nl : List Int) (w : World) (hsh : w.ShapedOpen Tryd.prog) (hT : Tab w) (h : Rows w v m) (hn1 : Ints w n1 nl) (hws : Rows w ws1 ws)
    (hv : validM m = true) (hn : namesM nl m.length = false) (hw : wordsM m ws = false) :
    Calls Tryd.prog 5 #[.agg #[v], n1, ws1] w fun e w' => e = .returned (.bool true) ∧ Below w.heap.size w w' := by
  obtain ⟨A, cap, rfl, _⟩ := id h
  obtain ⟨An, capn, rfl, _, _⟩ := id hn1
  obtain ⟨Aw, capw, rfl, _, _⟩ := id hws
  have hml := (valid_parts hv).2.1
  have hX := bal (Below.refl _ w) (.cells #[.slice A m.length cap] 24)
  have hbx : (w.alloc (.cells #[.slice A m.length cap] 24)).cell? ⟨w.heap.size, 0, none⟩ = some (.slice A m.length cap) := by simp
  have Hx := hid hX
  go_enter Tryd.func5, Tryd.ntmps5
  go_wp2_with fail
  generalize hWX : w.alloc (.cells #[.slice A m.length cap] 24) = X at *
  clear hX hWX
  have hX := Hx.out
  have hlt : w.heap.size < X.heap.size := World.block_lt_of_cell? _ _ hbx
  have hr := h.below hX
  have hnn := hn1.below hX
  have hww := hws.below hX
  refine (Renamed_res1 _ _ m nl _ hr hnn hv hn).mono ?_
  rintro e y1 ⟨r1, rfl, i1, k1⟩
  obtain ⟨A1, q1, rfl⟩ : ∃ A c, r1 = .slice A 0 c := shape_rows i1
  have C1 := bal k1 (.cells #[.slice A1 0 q1] 24)
  have d1 := (C1.cell (p := ⟨w.heap.size, 0, none⟩) hlt).trans hbx
  have b1 : (y1.alloc (.cells #[.slice A1 0 q1] 24)).cell? ⟨y1.heap.size, 0, none⟩ = some (.slice A1 0 q1) := by simp
  have hy1 : y1.heap.size < (y1.alloc (.cells #[.slice A1 0 q1] 24)).heap.size := by simp
  have j1 := i1.alloc (.cells #[.slice A1 0 q1] 24)
  go_wp2_with fail
  generalize hYY : y1.alloc (.cells #[.slice A1 0 q1] 24) = Y at *
  clear hYY i1 k1
  refine (Power_res1 _ _ m ws _ (hr.below C1) (hww.below C1) hv hw).mono ?_
  rintro e y2 ⟨r2, rfl, i2, k2⟩
  obtain ⟨A2, q2, rfl⟩ : ∃ A c, r2 = .slice A 0 c := shape_rows i2
  have E2 := bal (bal (bal (Below.refl _ y2) (.cells #[.slice A2 0 q2] 24)) (.cells #[.slice none 0 0] 24)) (.cells #[.slice none 0 0] 24)
  have D2 := btr k2 E2
  obtain ⟨g2, g3, g4⟩ := three_alloc y2 (.cells #[.slice A2 0 q2] 24) (.cells #[.slice none 0 0] 24) (.cells #[.slice none 0 0] 24)
  have C2 := btr C1 D2
  have d2 := (C2.cell (p := ⟨w.heap.size, 0, none⟩) hlt).trans hbx
  have b2 := (D2.cell (p := ⟨y1.heap.size, 0, none⟩) hy1).trans b1
  have s4 : (((y2.alloc (.cells #[.slice A2 0 q2] 24)).alloc (.cells #[.slice none 0 0] 24)).alloc (.cells #[.slice none 0 0] 24)).heap.size = y2.heap.size + 3 := by simp
  have d2a := ((btr C1 k2).cell (p := ⟨w.heap.size, 0, none⟩) hlt).trans hbx
  have hYy : Y.heap.size ≤ y2.heap.size := k2.size
  have hXy : X.heap.size ≤ Y.heap.size := C1.size
  have H4 := hid s4
  clear s4
  go_upto_region 6 with fail
  have s4 := H4.out
  generalize hZZ : ((y2.alloc (.cells #[.slice A2 0 q2] 24)).alloc (.cells #[.slice none 0 0] 24)).alloc (.cells #[.slice none 0 0] 24) = Z at *
  have z0 : y2.heap.size + 3 ≤ Z.heap.size := Nat.le_of_eq s4.symm
  clear hZZ k2 b1 d1 C1 s4 H4 d2a
  have p2 := cell_of_one g2
  have B0 : Below (y2.heap.size + 1) Z Z := Below.refl _ _
  have N0 := g3
  have M0 := g4
  have K0 := C2
  go_wp2_with fail
  refine (rValid_bool _ m true _ (hr.below K0) hv).mono ?_
  rintro e w1 ⟨rfl, h1⟩
  have z1 : y2.heap.size + 3 ≤ w1.heap.size := by have := h1.size; omega
  have B1 := B0.trans (h1.mono (by omega))
  have N1 := (h1.block _ (by omega)).trans N0
  have M1 := (h1.block _ (by omega)).trans M0
  have e1 := (B1.cell (p := ⟨w.heap.size, 0, none⟩) (by show w.heap.size < _; omega)).trans d2
  have K1 := C2.trans (B1.mono (by omega))
  go_wp2_with fail
  refine (rNames_bool _ nl m.length false _ (by omega) (hnn.below K1) hn).mono ?_
  rintro e w2 ⟨rfl, rfl⟩
  go_wp2_with fail
  refine (rValid_bool _ m true _ (hr.below K1) hv).mono ?_
  rintro e v1 ⟨rfl, l1⟩
  have z2 : y2.heap.size + 3 ≤ v1.heap.size := by have := l1.size; omega
  have B2 := B1.trans (l1.mono (by omega))
  have N2 := (l1.block _ (by omega)).trans N1
  have M2 := (l1.block _ (by omega)).trans M1
  have e2 := (B2.cell (p := ⟨w.heap.size, 0, none⟩) (by show w.heap.size < _; omega)).trans d2
  have K2 := C2.trans (B2.mono (by omega))
  go_wp2_with fail
  refine (rWords_bool _ _ m ws false _ (hr.below K2) hv (hww.below K2) hw).mono ?_
  rintro e v2 ⟨rfl, l2⟩
  have z3 : y2.heap.size + 3 ≤ v2.heap.size := by have := l2.size; omega
  have B3 := B2.trans (l2.mono (by omega))
  have N3 := (l2.block _ (by omega)).trans N2
  have M3 := (l2.block _ (by omega)).trans M2
  have e3 := (B3.cell (p := ⟨w.heap.size, 0, none⟩) (by show w.heap.size < _; omega)).trans d2
  have K3 := C2.trans (B3.mono (by omega))
  have T1 := j1.below (D2.trans (B3.mono (by omega)))
  have T2 := i2.below (E2.trans (B3.mono (by omega)))
  have n9 := cell_of_one N3
  have m9 := cell_of_one M3
  have p9 := (B3.cell (p := ⟨y2.heap.size, 0, none⟩) (Nat.lt_succ_self _)).trans p2
  have f9 := (B3.cell (p := ⟨y1.heap.size, 0, none⟩) (by show y1.heap.size < _; omega)).trans b2
  go_wp2_with fail
  refine (rSames_eq _ _ [] _ T1 (rows_nil _)).mono ?_
  rintro e x1 ⟨rfl, o1⟩
  have p10 := (o1.cell (p := ⟨y2.heap.size, 0, none⟩) (by show y2.heap.size < _; omega)).trans p9
  have m10 := (o1.cell (p := ⟨y2.heap.size + 2, 0, none⟩) (by show y2.heap.size + 2 < _; omega)).trans m9
  go_wp2_with fail
  refine (rSames_eq _ _ [] _ (T2.below o1) (rows_nil _)).mono ?_
  rintro e x2 ⟨rfl, o2⟩
  have HX := btr (btr (btr hX K3) o1) o2
  go_wp2_with fail
  refine (awake_any _ (shaped_below hsh HX) (hT.on HX)).mono ?_
  rintro e wz ⟨rfl, hz⟩
  go_wp2
  go_ret
  exact ⟨rfl, btr HX hz⟩

set_option maxRecDepth 100000 in
set_option maxHeartbeats 2000000 in
theorem makes_ft (v n1 ws1 : Value) (m ws : List (List Int)) (nl : List Int) (w : World) (hsh : w.ShapedOpen Tryd.prog) (hT : Tab w) (h : Rows w v m) (hn1 : Ints w n1 nl) (hws : Rows w ws1 ws)
    (hv : validM m = true) (hn : namesM nl m.length = false) (hw : wordsM m ws = true) :
    Calls Tryd.prog 5 #[.agg #[v], n1, ws1] w fun e w' => e = .returned (.bool true) ∧ Below w.heap.size w w' := by
  obtain ⟨A, cap, rfl, _⟩ := id h
  obtain ⟨An, capn, rfl, _, _⟩ := id hn1
  obtain ⟨Aw, capw, rfl, _, _⟩ := id hws
  have hml := (valid_parts hv).2.1
  obtain ⟨C, HC⟩ : ∃ C, Hid (powerM m ws = C) := ⟨_, hid rfl⟩
  have hCl : C.length ≤ big := by rw [← HC.out, powerM_length]; unfold big; omega
  have hX := bal (Below.refl _ w) (.cells #[.slice A m.length cap] 24)
  have hbx : (w.alloc (.cells #[.slice A m.length cap] 24)).cell? ⟨w.heap.size, 0, none⟩ = some (.slice A m.length cap) := by simp
  have Hx := hid hX
  go_enter Tryd.func5, Tryd.ntmps5
  go_wp2_with fail
  generalize hWX : w.alloc (.cells #[.slice A m.length cap] 24) = X at *
  clear hX hWX
  have hX := Hx.out
  have hlt : w.heap.size < X.heap.size := World.block_lt_of_cell? _ _ hbx
  have hr := h.below hX
  have hnn := hn1.below hX
  have hww := hws.below hX
  refine (Renamed_res1 _ _ m nl _ hr hnn hv hn).mono ?_
  rintro e y1 ⟨r1, rfl, i1, k1⟩
  obtain ⟨A1, q1, rfl⟩ : ∃ A c, r1 = .slice A 0 c := shape_rows i1
  have C1 := bal k1 (.cells #[.slice A1 0 q1] 24)
  have d1 := (C1.cell (p := ⟨w.heap.size, 0, none⟩) hlt).trans hbx
  have b1 : (y1.alloc (.cells #[.slice A1 0 q1] 24)).cell? ⟨y1.heap.size, 0, none⟩ = some (.slice A1 0 q1) := by simp
  have hy1 : y1.heap.size < (y1.alloc (.cells #[.slice A1 0 q1] 24)).heap.size := by simp
  have j1 := i1.alloc (.cells #[.slice A1 0 q1] 24)
  go_wp2_with fail
  generalize hYY : y1.alloc (.cells #[.slice A1 0 q1] 24) = Y at *
  clear hYY i1 k1
  refine (Power_res2 _ _ m C ws _ (hr.below C1) (hww.below C1) hv hw HC).mono ?_
  rintro e y2 ⟨r2, rfl, i2, k2⟩
  obtain ⟨A2, q2, rfl⟩ : ∃ A c, r2 = .slice A C.length c := shape_rows i2
  have E2 := bal (bal (bal (Below.refl _ y2) (.cells #[.slice A2 C.length q2] 24)) (.cells #[.slice none 0 0] 24)) (.cells #[.slice none 0 0] 24)
  have D2 := btr k2 E2
  obtain ⟨g2, g3, g4⟩ := three_alloc y2 (.cells #[.slice A2 C.length q2] 24) (.cells #[.slice none 0 0] 24) (.cells #[.slice none 0 0] 24)
  have C2 := btr C1 D2
  have d2 := (C2.cell (p := ⟨w.heap.size, 0, none⟩) hlt).trans hbx
  have b2 := (D2.cell (p := ⟨y1.heap.size, 0, none⟩) hy1).trans b1
  have s4 : (((y2.alloc (.cells #[.slice A2 C.length q2] 24)).alloc (.cells #[.slice none 0 0] 24)).alloc (.cells #[.slice none 0 0] 24)).heap.size = y2.heap.size + 3 := by simp
  have d2a := ((btr C1 k2).cell (p := ⟨w.heap.size, 0, none⟩) hlt).trans hbx
  have hYy : Y.heap.size ≤ y2.heap.size := k2.size
  have hXy : X.heap.size ≤ Y.heap.size := C1.size
  have H4 := hid s4
  clear s4
  go_upto_region 6 with fail
  have s4 := H4.out
  generalize hZZ : ((y2.alloc (.cells #[.slice A2 C.length q2] 24)).alloc (.cells #[.slice none 0 0] 24)).alloc (.cells #[.slice none 0 0] 24) = Z at *
  have z0 : y2.heap.size + 3 ≤ Z.heap.size := Nat.le_of_eq s4.symm
  clear hZZ k2 b1 d1 C1 s4 H4 d2a
  have p2 := cell_of_one g2
  have B0 : Below (y2.heap.size + 1) Z Z := Below.refl _ _
  have N0 := g3
  have M0 := g4
  have K0 := C2
  go_wp2_with fail
  refine (rValid_bool _ m true _ (hr.below K0) hv).mono ?_
  rintro e w1 ⟨rfl, h1⟩
  have z1 : y2.heap.size + 3 ≤ w1.heap.size := by have := h1.size; omega
  have B1 := B0.trans (h1.mono (by omega))
  have N1 := (h1.block _ (by omega)).trans N0
  have M1 := (h1.block _ (by omega)).trans M0
  have e1 := (B1.cell (p := ⟨w.heap.size, 0, none⟩) (by show w.heap.size < _; omega)).trans d2
  have K1 := C2.trans (B1.mono (by omega))
  go_wp2_with fail
  refine (rNames_bool _ nl m.length false _ (by omega) (hnn.below K1) hn).mono ?_
  rintro e w2 ⟨rfl, rfl⟩
  go_wp2_with fail
  refine (rValid_bool _ m true _ (hr.below K1) hv).mono ?_
  rintro e v1 ⟨rfl, l1⟩
  have z2 : y2.heap.size + 3 ≤ v1.heap.size := by have := l1.size; omega
  have B2 := B1.trans (l1.mono (by omega))
  have N2 := (l1.block _ (by omega)).trans N1
  have M2 := (l1.block _ (by omega)).trans M1
  have e2 := (B2.cell (p := ⟨w.heap.size, 0, none⟩) (by show w.heap.size < _; omega)).trans d2
  have K2 := C2.trans (B2.mono (by omega))
  go_wp2_with fail
  refine (rWords_bool _ _ m ws true _ (hr.below K2) hv (hww.below K2) hw).mono ?_
  rintro e v2 ⟨rfl, l2⟩
  have z3 : y2.heap.size + 3 ≤ v2.heap.size := by have := l2.size; omega
  have B3 := B2.trans (l2.mono (by omega))
  have N3 := (l2.block _ (by omega)).trans N2
  have M3 := (l2.block _ (by omega)).trans M2
  have e3 := (B3.cell (p := ⟨w.heap.size, 0, none⟩) (by show w.heap.size < _; omega)).trans d2
  have K3 := C2.trans (B3.mono (by omega))
  go_wp2_with fail
  refine (rPower_as _ _ m ws C _ (hr.below K3) (hww.below K3) hv hw HC).mono ?_
  rintro e v3 ⟨r4, rfl, i4, l3⟩
  obtain ⟨A4, q4, rfl⟩ := shape_rows (i4.rows hCl)
  have z4 : y2.heap.size + 3 ≤ v3.heap.size := by have := l3.size; omega
  have B4 := B3.trans (l3.mono (by omega))
  have N4 := (l3.block _ (by omega)).trans N3
  have M4 := (l3.block _ (by omega)).trans M3
  have e4 := (B4.cell (p := ⟨w.heap.size, 0, none⟩) (by show w.heap.size < _; omega)).trans d2
  have K4 := C2.trans (B4.mono (by omega))
  have m8 := cell_of_one M4
  have m8f := free_of_one M4
  have B9 : Below (y2.heap.size + 1) Z (v3.setCell ⟨y2.heap.size + 2, 0, none⟩ (.slice A4 C.length q4)) := B4.setCell (Nat.le_succ _) _
  have N9 := (Below.heap_setCell v3 ⟨y2.heap.size + 2, 0, none⟩ (.slice A4 C.length q4) (y2.heap.size + 1) (by simp)).trans N4
  have M9 : (v3.setCell ⟨y2.heap.size + 2, 0, none⟩ (.slice A4 C.length q4)).heap[y2.heap.size + 2]? = some (.cells #[.slice A4 C.length q4] 24 (0, 0)) := by simpa using heap_setCell_same v3 (y2.heap.size + 2) 0 _ _ (.slice A4 C.length q4) M4
  have I9 := (i4.kept (W' := (v3.setCell ⟨y2.heap.size + 2, 0, none⟩ (.slice A4 C.length q4))) (fun q hq hs => Below.heap_setCell _ _ _ _ (by simp; omega))).rows hCl
  have z9 : y2.heap.size + 3 ≤ (v3.setCell ⟨y2.heap.size + 2, 0, none⟩ (.slice A4 C.length q4)).heap.size := Nat.le_trans z4 (Nat.le_of_eq (by simp [World.setCell]))
  have e9 := (B9.cell (p := ⟨w.heap.size, 0, none⟩) (by show w.heap.size < _; omega)).trans d2
  have K9 := C2.trans (B9.mono (by omega))
  go_upto_region 15 with fail
  generalize hV9 : (v3.setCell ⟨y2.heap.size + 2, 0, none⟩ (.slice A4 C.length q4)) = V9 at *
  clear hV9
  have T1 := j1.below (D2.trans (B9.mono (by omega)))
  have T2 := i2.below (E2.trans (B9.mono (by omega)))
  have n9 := cell_of_one N9
  have m9 := cell_of_one M9
  have p9 := (B9.cell (p := ⟨y2.heap.size, 0, none⟩) (Nat.lt_succ_self _)).trans p2
  have f9 := (B9.cell (p := ⟨y1.heap.size, 0, none⟩) (by show y1.heap.size < _; omega)).trans b2
  go_wp2_with fail
  refine (rSames_eq _ _ [] _ T1 (rows_nil _)).mono ?_
  rintro e x1 ⟨rfl, o1⟩
  have p10 := (o1.cell (p := ⟨y2.heap.size, 0, none⟩) (by show y2.heap.size < _; omega)).trans p9
  have m10 := (o1.cell (p := ⟨y2.heap.size + 2, 0, none⟩) (by show y2.heap.size + 2 < _; omega)).trans m9
  go_wp2_with fail
  refine (rSames_eq _ _ C _ (T2.below o1) (I9.below o1)).mono ?_
  rintro e x2 ⟨rfl, o2⟩
  have HX := btr (btr (btr hX K9) o1) o2
  go_wp2_with fail
  refine (awake_any _ (shaped_below hsh HX) (hT.on HX)).mono ?_
  rintro e wz ⟨rfl, hz⟩
  go_wp2
  go_ret
  exact ⟨rfl, btr HX hz⟩

set_option maxRecDepth 100000 in
set_option maxHeartbeats 2000000 in
theorem makes_tf (v n1 ws1 : Value) (m ws : List (List Int)) (nl : List Int) (w : World) (hsh : w.ShapedOpen Tryd.prog) (hT : Tab w) (h : Rows w v m) (hn1 : Ints w n1 nl) (hws : Rows w ws1 ws)
    (hv : validM m = true) (hn : namesM nl m.length = true) (hw : wordsM m ws = false) :
    Calls Tryd.prog 5 #[.agg #[v], n1, ws1] w fun e w' => e = .returned (.bool true) ∧ Below w.heap.size w w' := by
  obtain ⟨A, cap, rfl, _⟩ := id h
  obtain ⟨An, capn, rfl, _, _⟩ := id hn1
  obtain ⟨Aw, capw, rfl, _, _⟩ := id hws
  have hml := (valid_parts hv).2.1
  obtain ⟨R, HR⟩ : ∃ R, Hid (renM m nl = R) := ⟨_, hid rfl⟩
  have hRl : R.length ≤ big := by rw [← HR.out, renM_length]; unfold big; omega
  have hX := bal (Below.refl _ w) (.cells #[.slice A m.length cap] 24)
  have hbx : (w.alloc (.cells #[.slice A m.length cap] 24)).cell? ⟨w.heap.size, 0, none⟩ = some (.slice A m.length cap) := by simp
  have Hx := hid hX
  go_enter Tryd.func5, Tryd.ntmps5
  go_wp2_with fail
  generalize hWX : w.alloc (.cells #[.slice A m.length cap] 24) = X at *
  clear hX hWX
  have hX := Hx.out
  have hlt : w.heap.size < X.heap.size := World.block_lt_of_cell? _ _ hbx
  have hr := h.below hX
  have hnn := hn1.below hX
  have hww := hws.below hX
  refine (Renamed_res2 _ _ m R nl _ hr hnn hv hn HR).mono ?_
  rintro e y1 ⟨r1, rfl, i1, k1⟩
  obtain ⟨A1, q1, rfl⟩ : ∃ A c, r1 = .slice A R.length c := shape_rows i1
  have C1 := bal k1 (.cells #[.slice A1 R.length q1] 24)
  have d1 := (C1.cell (p := ⟨w.heap.size, 0, none⟩) hlt).trans hbx
  have b1 : (y1.alloc (.cells #[.slice A1 R.length q1] 24)).cell? ⟨y1.heap.size, 0, none⟩ = some (.slice A1 R.length q1) := by simp
  have hy1 : y1.heap.size < (y1.alloc (.cells #[.slice A1 R.length q1] 24)).heap.size := by simp
  have j1 := i1.alloc (.cells #[.slice A1 R.length q1] 24)
  go_wp2_with fail
  generalize hYY : y1.alloc (.cells #[.slice A1 R.length q1] 24) = Y at *
  clear hYY i1 k1
  refine (Power_res1 _ _ m ws _ (hr.below C1) (hww.below C1) hv hw).mono ?_
  rintro e y2 ⟨r2, rfl, i2, k2⟩
  obtain ⟨A2, q2, rfl⟩ : ∃ A c, r2 = .slice A 0 c := shape_rows i2
  have E2 := bal (bal (bal (Below.refl _ y2) (.cells #[.slice A2 0 q2] 24)) (.cells #[.slice none 0 0] 24)) (.cells #[.slice none 0 0] 24)
  have D2 := btr k2 E2
  obtain ⟨g2, g3, g4⟩ := three_alloc y2 (.cells #[.slice A2 0 q2] 24) (.cells #[.slice none 0 0] 24) (.cells #[.slice none 0 0] 24)
  have C2 := btr C1 D2
  have d2 := (C2.cell (p := ⟨w.heap.size, 0, none⟩) hlt).trans hbx
  have b2 := (D2.cell (p := ⟨y1.heap.size, 0, none⟩) hy1).trans b1
  have s4 : (((y2.alloc (.cells #[.slice A2 0 q2] 24)).alloc (.cells #[.slice none 0 0] 24)).alloc (.cells #[.slice none 0 0] 24)).heap.size = y2.heap.size + 3 := by simp
  have d2a := ((btr C1 k2).cell (p := ⟨w.heap.size, 0, none⟩) hlt).trans hbx
  have hYy : Y.heap.size ≤ y2.heap.size := k2.size
  have hXy : X.heap.size ≤ Y.heap.size := C1.size
  have H4 := hid s4
  clear s4
  go_upto_region 6 with fail
  have s4 := H4.out
  generalize hZZ : ((y2.alloc (.cells #[.slice A2 0 q2] 24)).alloc (.cells #[.slice none 0 0] 24)).alloc (.cells #[.slice none 0 0] 24) = Z at *
  have z0 : y2.heap.size + 3 ≤ Z.heap.size := Nat.le_of_eq s4.symm
  clear hZZ k2 b1 d1 C1 s4 H4 d2a
  have p2 := cell_of_one g2
  have B0 : Below (y2.heap.size + 1) Z Z := Below.refl _ _
  have N0 := g3
  have M0 := g4
  have K0 := C2
  go_wp2_with fail
  refine (rValid_bool _ m true _ (hr.below K0) hv).mono ?_
  rintro e w1 ⟨rfl, h1⟩
  have z1 : y2.heap.size + 3 ≤ w1.heap.size := by have := h1.size; omega
  have B1 := B0.trans (h1.mono (by omega))
  have N1 := (h1.block _ (by omega)).trans N0
  have M1 := (h1.block _ (by omega)).trans M0
  have e1 := (B1.cell (p := ⟨w.heap.size, 0, none⟩) (by show w.heap.size < _; omega)).trans d2
  have K1 := C2.trans (B1.mono (by omega))
  go_wp2_with fail
  refine (rNames_bool _ nl m.length true _ (by omega) (hnn.below K1) hn).mono ?_
  rintro e w2 ⟨rfl, rfl⟩
  go_wp2_with fail
  refine (rRenamed_as _ _ m R nl _ (hr.below K1) (hnn.below K1) hv hn HR).mono ?_
  rintro e w2 ⟨r3, rfl, i3, h2⟩
  obtain ⟨A3, q3, rfl⟩ := shape_rows (i3.rows hRl)
  have z2 : y2.heap.size + 3 ≤ w2.heap.size := by have := h2.size; omega
  have B2 := B1.trans (h2.mono (by omega))
  have N2 := (h2.block _ (by omega)).trans N1
  have M2 := (h2.block _ (by omega)).trans M1
  have e2 := (B2.cell (p := ⟨w.heap.size, 0, none⟩) (by show w.heap.size < _; omega)).trans d2
  have K2 := C2.trans (B2.mono (by omega))
  have n2 := cell_of_one N2
  have n2f := free_of_one N2
  have B3 : Below (y2.heap.size + 1) Z (w2.setCell ⟨y2.heap.size + 1, 0, none⟩ (.slice A3 R.length q3)) := B2.setCell (Nat.le_refl _) _
  have N3 : (w2.setCell ⟨y2.heap.size + 1, 0, none⟩ (.slice A3 R.length q3)).heap[y2.heap.size + 1]? = some (.cells #[.slice A3 R.length q3] 24 (0, 0)) := by simpa using heap_setCell_same w2 (y2.heap.size + 1) 0 _ _ (.slice A3 R.length q3) N2
  have M3 := (Below.heap_setCell w2 ⟨y2.heap.size + 1, 0, none⟩ (.slice A3 R.length q3) (y2.heap.size + 2) (by simp)).trans M2
  have I3 := (i3.kept (W' := w2.setCell ⟨y2.heap.size + 1, 0, none⟩ (.slice A3 R.length q3)) (fun q hq hs => Below.heap_setCell _ _ _ _ (by simp; omega)))
  have z3 : y2.heap.size + 3 ≤ (w2.setCell ⟨y2.heap.size + 1, 0, none⟩ (.slice A3 R.length q3)).heap.size := Nat.le_trans z2 (Nat.le_of_eq (by simp [World.setCell]))
  have K3 := C2.trans (B3.mono (by omega))
  have e3 := (B3.cell (p := ⟨w.heap.size, 0, none⟩) (by show w.heap.size < _; omega)).trans d2
  go_upto_region 11 with fail
  generalize hV : w2.setCell ⟨y2.heap.size + 1, 0, none⟩ (.slice A3 R.length q3) = V at *
  clear hV
  go_wp2_with fail
  refine (rValid_bool _ m true _ (hr.below K3) hv).mono ?_
  rintro e v1 ⟨rfl, l1⟩
  have z4 : y2.heap.size + 3 ≤ v1.heap.size := by have := l1.size; omega
  have B4 := B3.trans (l1.mono (by omega))
  have N4 := (l1.block _ (by omega)).trans N3
  have M4 := (l1.block _ (by omega)).trans M3
  have e4 := (B4.cell (p := ⟨w.heap.size, 0, none⟩) (by show w.heap.size < _; omega)).trans d2
  have K4 := C2.trans (B4.mono (by omega))
  have I4 := I3.below l1
  go_wp2_with fail
  refine (rWords_bool _ _ m ws false _ (hr.below K4) hv (hww.below K4) hw).mono ?_
  rintro e v2 ⟨rfl, l2⟩
  have z5 : y2.heap.size + 3 ≤ v2.heap.size := by have := l2.size; omega
  have B5 := B4.trans (l2.mono (by omega))
  have N5 := (l2.block _ (by omega)).trans N4
  have M5 := (l2.block _ (by omega)).trans M4
  have e5 := (B5.cell (p := ⟨w.heap.size, 0, none⟩) (by show w.heap.size < _; omega)).trans d2
  have K5 := C2.trans (B5.mono (by omega))
  have I5 := I4.below l2
  have T1 := j1.below (D2.trans (B5.mono (by omega)))
  have T2 := i2.below (E2.trans (B5.mono (by omega)))
  have n9 := cell_of_one N5
  have m9 := cell_of_one M5
  have p9 := (B5.cell (p := ⟨y2.heap.size, 0, none⟩) (Nat.lt_succ_self _)).trans p2
  have f9 := (B5.cell (p := ⟨y1.heap.size, 0, none⟩) (by show y1.heap.size < _; omega)).trans b2
  go_wp2_with fail
  refine (rSames_eq _ _ R _ T1 (I5.rows hRl)).mono ?_
  rintro e x1 ⟨rfl, o1⟩
  have p10 := (o1.cell (p := ⟨y2.heap.size, 0, none⟩) (by show y2.heap.size < _; omega)).trans p9
  have m10 := (o1.cell (p := ⟨y2.heap.size + 2, 0, none⟩) (by show y2.heap.size + 2 < _; omega)).trans m9
  go_wp2_with fail
  refine (rSames_eq _ _ [] _ (T2.below o1) (rows_nil _)).mono ?_
  rintro e x2 ⟨rfl, o2⟩
  have HX := btr (btr (btr hX K5) o1) o2
  go_wp2_with fail
  refine (awake_any _ (shaped_below hsh HX) (hT.on HX)).mono ?_
  rintro e wz ⟨rfl, hz⟩
  go_wp2
  go_ret
  exact ⟨rfl, btr HX hz⟩

set_option maxRecDepth 100000 in
set_option maxHeartbeats 2000000 in
theorem makes_tt (v n1 ws1 : Value) (m ws : List (List Int)) (nl : List Int) (w : World) (hsh : w.ShapedOpen Tryd.prog) (hT : Tab w) (h : Rows w v m) (hn1 : Ints w n1 nl) (hws : Rows w ws1 ws)
    (hv : validM m = true) (hn : namesM nl m.length = true) (hw : wordsM m ws = true) :
    Calls Tryd.prog 5 #[.agg #[v], n1, ws1] w fun e w' => e = .returned (.bool true) ∧ Below w.heap.size w w' := by
  obtain ⟨A, cap, rfl, _⟩ := id h
  obtain ⟨An, capn, rfl, _, _⟩ := id hn1
  obtain ⟨Aw, capw, rfl, _, _⟩ := id hws
  have hml := (valid_parts hv).2.1
  obtain ⟨R, HR⟩ : ∃ R, Hid (renM m nl = R) := ⟨_, hid rfl⟩
  have hRl : R.length ≤ big := by rw [← HR.out, renM_length]; unfold big; omega
  obtain ⟨C, HC⟩ : ∃ C, Hid (powerM m ws = C) := ⟨_, hid rfl⟩
  have hCl : C.length ≤ big := by rw [← HC.out, powerM_length]; unfold big; omega
  have hX := bal (Below.refl _ w) (.cells #[.slice A m.length cap] 24)
  have hbx : (w.alloc (.cells #[.slice A m.length cap] 24)).cell? ⟨w.heap.size, 0, none⟩ = some (.slice A m.length cap) := by simp
  have Hx := hid hX
  go_enter Tryd.func5, Tryd.ntmps5
  go_wp2_with fail
  generalize hWX : w.alloc (.cells #[.slice A m.length cap] 24) = X at *
  clear hX hWX
  have hX := Hx.out
  have hlt : w.heap.size < X.heap.size := World.block_lt_of_cell? _ _ hbx
  have hr := h.below hX
  have hnn := hn1.below hX
  have hww := hws.below hX
  refine (Renamed_res2 _ _ m R nl _ hr hnn hv hn HR).mono ?_
  rintro e y1 ⟨r1, rfl, i1, k1⟩
  obtain ⟨A1, q1, rfl⟩ : ∃ A c, r1 = .slice A R.length c := shape_rows i1
  have C1 := bal k1 (.cells #[.slice A1 R.length q1] 24)
  have d1 := (C1.cell (p := ⟨w.heap.size, 0, none⟩) hlt).trans hbx
  have b1 : (y1.alloc (.cells #[.slice A1 R.length q1] 24)).cell? ⟨y1.heap.size, 0, none⟩ = some (.slice A1 R.length q1) := by simp
  have hy1 : y1.heap.size < (y1.alloc (.cells #[.slice A1 R.length q1] 24)).heap.size := by simp
  have j1 := i1.alloc (.cells #[.slice A1 R.length q1] 24)
  go_wp2_with fail
  generalize hYY : y1.alloc (.cells #[.slice A1 R.length q1] 24) = Y at *
  clear hYY i1 k1
  refine (Power_res2 _ _ m C ws _ (hr.below C1) (hww.below C1) hv hw HC).mono ?_
  rintro e y2 ⟨r2, rfl, i2, k2⟩
  obtain ⟨A2, q2, rfl⟩ : ∃ A c, r2 = .slice A C.length c := shape_rows i2
  have E2 := bal (bal (bal (Below.refl _ y2) (.cells #[.slice A2 C.length q2] 24)) (.cells #[.slice none 0 0] 24)) (.cells #[.slice none 0 0] 24)
  have D2 := btr k2 E2
  obtain ⟨g2, g3, g4⟩ := three_alloc y2 (.cells #[.slice A2 C.length q2] 24) (.cells #[.slice none 0 0] 24) (.cells #[.slice none 0 0] 24)
  have C2 := btr C1 D2
  have d2 := (C2.cell (p := ⟨w.heap.size, 0, none⟩) hlt).trans hbx
  have b2 := (D2.cell (p := ⟨y1.heap.size, 0, none⟩) hy1).trans b1
  have s4 : (((y2.alloc (.cells #[.slice A2 C.length q2] 24)).alloc (.cells #[.slice none 0 0] 24)).alloc (.cells #[.slice none 0 0] 24)).heap.size = y2.heap.size + 3 := by simp
  have d2a := ((btr C1 k2).cell (p := ⟨w.heap.size, 0, none⟩) hlt).trans hbx
  have hYy : Y.heap.size ≤ y2.heap.size := k2.size
  have hXy : X.heap.size ≤ Y.heap.size := C1.size
  have H4 := hid s4
  clear s4
  go_upto_region 6 with fail
  have s4 := H4.out
  generalize hZZ : ((y2.alloc (.cells #[.slice A2 C.length q2] 24)).alloc (.cells #[.slice none 0 0] 24)).alloc (.cells #[.slice none 0 0] 24) = Z at *
  have z0 : y2.heap.size + 3 ≤ Z.heap.size := Nat.le_of_eq s4.symm
  clear hZZ k2 b1 d1 C1 s4 H4 d2a
  have p2 := cell_of_one g2
  have B0 : Below (y2.heap.size + 1) Z Z := Below.refl _ _
  have N0 := g3
  have M0 := g4
  have K0 := C2
  go_wp2_with fail
  refine (rValid_bool _ m true _ (hr.below K0) hv).mono ?_
  rintro e w1 ⟨rfl, h1⟩
  have z1 : y2.heap.size + 3 ≤ w1.heap.size := by have := h1.size; omega
  have B1 := B0.trans (h1.mono (by omega))
  have N1 := (h1.block _ (by omega)).trans N0
  have M1 := (h1.block _ (by omega)).trans M0
  have e1 := (B1.cell (p := ⟨w.heap.size, 0, none⟩) (by show w.heap.size < _; omega)).trans d2
  have K1 := C2.trans (B1.mono (by omega))
  go_wp2_with fail
  refine (rNames_bool _ nl m.length true _ (by omega) (hnn.below K1) hn).mono ?_
  rintro e w2 ⟨rfl, rfl⟩
  go_wp2_with fail
  refine (rRenamed_as _ _ m R nl _ (hr.below K1) (hnn.below K1) hv hn HR).mono ?_
  rintro e w2 ⟨r3, rfl, i3, h2⟩
  obtain ⟨A3, q3, rfl⟩ := shape_rows (i3.rows hRl)
  have z2 : y2.heap.size + 3 ≤ w2.heap.size := by have := h2.size; omega
  have B2 := B1.trans (h2.mono (by omega))
  have N2 := (h2.block _ (by omega)).trans N1
  have M2 := (h2.block _ (by omega)).trans M1
  have e2 := (B2.cell (p := ⟨w.heap.size, 0, none⟩) (by show w.heap.size < _; omega)).trans d2
  have K2 := C2.trans (B2.mono (by omega))
  have n2 := cell_of_one N2
  have n2f := free_of_one N2
  have B3 : Below (y2.heap.size + 1) Z (w2.setCell ⟨y2.heap.size + 1, 0, none⟩ (.slice A3 R.length q3)) := B2.setCell (Nat.le_refl _) _
  have N3 : (w2.setCell ⟨y2.heap.size + 1, 0, none⟩ (.slice A3 R.length q3)).heap[y2.heap.size + 1]? = some (.cells #[.slice A3 R.length q3] 24 (0, 0)) := by simpa using heap_setCell_same w2 (y2.heap.size + 1) 0 _ _ (.slice A3 R.length q3) N2
  have M3 := (Below.heap_setCell w2 ⟨y2.heap.size + 1, 0, none⟩ (.slice A3 R.length q3) (y2.heap.size + 2) (by simp)).trans M2
  have I3 := (i3.kept (W' := w2.setCell ⟨y2.heap.size + 1, 0, none⟩ (.slice A3 R.length q3)) (fun q hq hs => Below.heap_setCell _ _ _ _ (by simp; omega)))
  have z3 : y2.heap.size + 3 ≤ (w2.setCell ⟨y2.heap.size + 1, 0, none⟩ (.slice A3 R.length q3)).heap.size := Nat.le_trans z2 (Nat.le_of_eq (by simp [World.setCell]))
  have K3 := C2.trans (B3.mono (by omega))
  have e3 := (B3.cell (p := ⟨w.heap.size, 0, none⟩) (by show w.heap.size < _; omega)).trans d2
  go_upto_region 11 with fail
  generalize hV : w2.setCell ⟨y2.heap.size + 1, 0, none⟩ (.slice A3 R.length q3) = V at *
  clear hV
  go_wp2_with fail
  refine (rValid_bool _ m true _ (hr.below K3) hv).mono ?_
  rintro e v1 ⟨rfl, l1⟩
  have z4 : y2.heap.size + 3 ≤ v1.heap.size := by have := l1.size; omega
  have B4 := B3.trans (l1.mono (by omega))
  have N4 := (l1.block _ (by omega)).trans N3
  have M4 := (l1.block _ (by omega)).trans M3
  have e4 := (B4.cell (p := ⟨w.heap.size, 0, none⟩) (by show w.heap.size < _; omega)).trans d2
  have K4 := C2.trans (B4.mono (by omega))
  have I4 := I3.below l1
  go_wp2_with fail
  refine (rWords_bool _ _ m ws true _ (hr.below K4) hv (hww.below K4) hw).mono ?_
  rintro e v2 ⟨rfl, l2⟩
  have z5 : y2.heap.size + 3 ≤ v2.heap.size := by have := l2.size; omega
  have B5 := B4.trans (l2.mono (by omega))
  have N5 := (l2.block _ (by omega)).trans N4
  have M5 := (l2.block _ (by omega)).trans M4
  have e5 := (B5.cell (p := ⟨w.heap.size, 0, none⟩) (by show w.heap.size < _; omega)).trans d2
  have K5 := C2.trans (B5.mono (by omega))
  have I5 := I4.below l2
  go_wp2_with fail
  refine (rPower_as _ _ m ws C _ (hr.below K5) (hww.below K5) hv hw HC).mono ?_
  rintro e v3 ⟨r4, rfl, i4, l3⟩
  obtain ⟨A4, q4, rfl⟩ := shape_rows (i4.rows hCl)
  have z6 : y2.heap.size + 3 ≤ v3.heap.size := by have := l3.size; omega
  have B6 := B5.trans (l3.mono (by omega))
  have N6 := (l3.block _ (by omega)).trans N5
  have M6 := (l3.block _ (by omega)).trans M5
  have e6 := (B6.cell (p := ⟨w.heap.size, 0, none⟩) (by show w.heap.size < _; omega)).trans d2
  have K6 := C2.trans (B6.mono (by omega))
  have I6 := I5.below l3
  have m8 := cell_of_one M6
  have m8f := free_of_one M6
  have B9 : Below (y2.heap.size + 1) Z (v3.setCell ⟨y2.heap.size + 2, 0, none⟩ (.slice A4 C.length q4)) := B6.setCell (Nat.le_succ _) _
  have N9 := (Below.heap_setCell v3 ⟨y2.heap.size + 2, 0, none⟩ (.slice A4 C.length q4) (y2.heap.size + 1) (by simp)).trans N6
  have M9 : (v3.setCell ⟨y2.heap.size + 2, 0, none⟩ (.slice A4 C.length q4)).heap[y2.heap.size + 2]? = some (.cells #[.slice A4 C.length q4] 24 (0, 0)) := by simpa using heap_setCell_same v3 (y2.heap.size + 2) 0 _ _ (.slice A4 C.length q4) M6
  have I9 := (i4.kept (W' := (v3.setCell ⟨y2.heap.size + 2, 0, none⟩ (.slice A4 C.length q4))) (fun q hq hs => Below.heap_setCell _ _ _ _ (by simp; omega))).rows hCl
  have I7 := (I6.kept (W' := (v3.setCell ⟨y2.heap.size + 2, 0, none⟩ (.slice A4 C.length q4))) (fun q hq hs => Below.heap_setCell _ _ _ _ (by simp; omega)))
  have z9 : y2.heap.size + 3 ≤ (v3.setCell ⟨y2.heap.size + 2, 0, none⟩ (.slice A4 C.length q4)).heap.size := Nat.le_trans z6 (Nat.le_of_eq (by simp [World.setCell]))
  have e9 := (B9.cell (p := ⟨w.heap.size, 0, none⟩) (by show w.heap.size < _; omega)).trans d2
  have K9 := C2.trans (B9.mono (by omega))
  go_upto_region 15 with fail
  generalize hV9 : (v3.setCell ⟨y2.heap.size + 2, 0, none⟩ (.slice A4 C.length q4)) = V9 at *
  clear hV9
  have T1 := j1.below (D2.trans (B9.mono (by omega)))
  have T2 := i2.below (E2.trans (B9.mono (by omega)))
  have n9 := cell_of_one N9
  have m9 := cell_of_one M9
  have p9 := (B9.cell (p := ⟨y2.heap.size, 0, none⟩) (Nat.lt_succ_self _)).trans p2
  have f9 := (B9.cell (p := ⟨y1.heap.size, 0, none⟩) (by show y1.heap.size < _; omega)).trans b2
  go_wp2_with fail
  refine (rSames_eq _ _ R _ T1 (I7.rows hRl)).mono ?_
  rintro e x1 ⟨rfl, o1⟩
  have p10 := (o1.cell (p := ⟨y2.heap.size, 0, none⟩) (by show y2.heap.size < _; omega)).trans p9
  have m10 := (o1.cell (p := ⟨y2.heap.size + 2, 0, none⟩) (by show y2.heap.size + 2 < _; omega)).trans m9
  go_wp2_with fail
  refine (rSames_eq _ _ C _ (T2.below o1) (I9.below o1)).mono ?_
  rintro e x2 ⟨rfl, o2⟩
  have HX := btr (btr (btr hX K9) o1) o2
  go_wp2_with fail
  refine (awake_any _ (shaped_below hsh HX) (hT.on HX)).mono ?_
  rintro e wz ⟨rfl, hz⟩
  go_wp2
  go_ret
  exact ⟨rfl, btr HX hz⟩

theorem makes_any (v n1 ws1 : Value) (m ws : List (List Int)) (nl : List Int) (w : World) (hsh : w.ShapedOpen Tryd.prog) (hT : Tab w) (h : Rows w v m) (hn1 : Ints w n1 nl) (hws : Rows w ws1 ws) :
    Calls Tryd.prog 5 #[.agg #[v], n1, ws1] w fun e w' => e = .returned (.bool true) ∧ Below w.heap.size w w' := by
  cases hv : validM m with
  | false => exact makes_form v n1 ws1 m ws nl w hsh hT h hn1 hws hv
  | true =>
    cases hn : namesM nl m.length with
    | false =>
      cases hw : wordsM m ws with
      | false => exact makes_ff v n1 ws1 m ws nl w hsh hT h hn1 hws hv hn hw
      | true => exact makes_ft v n1 ws1 m ws nl w hsh hT h hn1 hws hv hn hw
    | true =>
      cases hw : wordsM m ws with
      | false => exact makes_tf v n1 ws1 m ws nl w hsh hT h hn1 hws hv hn hw
      | true => exact makes_tt v n1 ws1 m ws nl w hsh hT h hn1 hws hv hn hw
end Go.Proofs.YtibaihchnbbokaaDoor
