/-
  The law of renamed automata and of powers.
-/
import Derived.Test.YtibaihchnbbokaaDoorP4
import Derived.Test.YtibaihchnbbokaaDoorL1
import Derived.Test.YtibaihchnbbokaaDoorL2
import Derived.Test.YtibaihchnbbokaaDoorP8
import Derived.Test.YtibaihchnbbokaaDoorM2
import Derived.Test.YtibaihchnbbokaaDoorO2
namespace Go.Proofs.YtibaihchnbbokaaDoor
open Go.RowKit Go.Shelf

theorem rNames_bool (v : Value) (l : List Int) (n : Nat) (b : Bool) (w : World) (hn : n ≤ 60) (h : Ints w v l) (hb : namesM l n = b) :
    Calls Tryd.prog 30 #[v, .int .i64 n] w fun e w' => e = .returned (.bool b) ∧ w = w' := by
  subst hb; exact rNames_any v l n w hn h
theorem rWords_bool (v u : Value) (m ws : List (List Int)) (b : Bool) (w : World) (h : Rows w v m) (hv : validM m = true) (hu : Rows w u ws) (hb : wordsM m ws = b) :
    Calls Tryd.prog 32 #[.agg #[v], u] w fun e w' => e = .returned (.bool b) ∧ Below w.heap.size w w' := by
  subst hb; exact rWords_any v u m ws w h hv hu
/-- The contracts with their results under a name. -/
theorem Renamed_as (v u : Value) (m R : List (List Int)) (l : List Int) (w : World) (h : Rows w v m) (hu : Ints w u l) (hv : validM m = true) (hnm : namesM l m.length = true) (hR : Hid (renM m l = R)) :
    Calls Tryd.prog 28 #[.agg #[v], u] w (AutoOk w R) := by
  rw [← hR.out]; exact Renamed_ok v u m l w h hu hv hnm
theorem Power_as (v u : Value) (m ws R : List (List Int)) (w : World) (h : Rows w v m) (hu : Rows w u ws) (hv : validM m = true) (hw : wordsM m ws = true) (hR : Hid (powerM m ws = R)) :
    Calls Tryd.prog 29 #[.agg #[v], u] w (AutoOk w R) := by
  rw [← hR.out]; rw [wordsM, Bool.and_eq_true] at hw; exact Power_ok v u m ws w h hu hv hw.1 hw.2
theorem Run_as (v u : Value) (m : List (List Int)) (s t : Nat) (ul : List Int) (w : World) (h : Rows w v m) (hu : Ints w u ul) (hv : validM m = true) (hs : s < m.length) (hw : isWordM m ul = true) (ht : Hid (runM m s ul = t)) :
    Calls Tryd.prog 15 #[.agg #[v], .int .i64 s, u] w (NumIs w t 0) := by
  rw [← ht.out]; exact Run_ok v u m s ul w h hu hv hs hw

set_option maxRecDepth 100000 in
set_option maxHeartbeats 2000000 in
theorem names_valid (v n1 ws1 u1 : Value) (m ws : List (List Int)) (s : Int) (nl ul : List Int) (w : World) (hsh : w.ShapedOpen Tryd.prog) (hT : Tab w) (h : Rows w v m) (hn1 : Ints w n1 nl) (hws : RowsN w ws1 ws) (hu1 : Ints w u1 ul)
    (hv : validM m = false) :
    Calls Tryd.prog 9 #[.agg #[v], .int .i64 s, n1, ws1, u1] w fun e w' => e = .returned (.bool true) ∧ Below w.heap.size w w' := by
  obtain ⟨A, cap, rfl, _⟩ := id h
  obtain ⟨An, capn, rfl, hln, hcn⟩ := id hn1
  obtain ⟨Aw, capw, rfl, hlw, hcw⟩ := id hws
  obtain ⟨Au, capu, rfl, hlu, hcu⟩ := id hu1
  unfold big at hln hlw hlu
  have Hcn := hid hcn
  have Hcw := hid hcw
  have Hcu := hid hcu
  clear hcn hcw hcu
  have hX := bal (Below.refl _ w) (.cells #[.slice A m.length cap] 24)
  have hbx : (w.alloc (.cells #[.slice A m.length cap] 24)).cell? ⟨w.heap.size, 0, none⟩ = some (.slice A m.length cap) := by simp
  have Hx := hid hX
  go_enter Tryd.func9, Tryd.ntmps9
  go_wp2_with fail
  generalize hWX : w.alloc (.cells #[.slice A m.length cap] 24) = X at *
  clear hX hWX
  have hX := Hx.out
  have hlt : w.heap.size < X.heap.size := World.block_lt_of_cell? _ _ hbx
  have hr := h.below hX
  have hn := hn1.below hX
  have hw := hws.below hX
  have hu := hu1.below hX
  have hTX := hT.on hX
  have B0 := Below.refl X.heap.size X
  refine (rValid_bool _ m false _ (hr.below B0) hv).mono ?_
  rintro e w1 ⟨rfl, h1⟩
  have B1 := btr B0 h1
  have c1 := (B1.cell (p := ⟨w.heap.size, 0, none⟩) hlt).trans hbx
  go_wp2_with fail
  refine (awake_any _ (shaped_below hsh (btr hX B1)) (hT.on (btr hX B1))).mono ?_
  rintro e wz ⟨rfl, hz⟩
  go_wp2
  go_ret
  exact ⟨rfl, btr (btr hX B1) hz⟩

set_option maxRecDepth 100000 in
set_option maxHeartbeats 2000000 in
theorem names_state (v n1 ws1 u1 : Value) (m ws : List (List Int)) (s : Int) (nl ul : List Int) (w : World) (hsh : w.ShapedOpen Tryd.prog) (hT : Tab w) (h : Rows w v m) (hn1 : Ints w n1 nl) (hws : RowsN w ws1 ws) (hu1 : Ints w u1 ul)
    (hv : validM m = true) (hs : stateM m s = false) :
    Calls Tryd.prog 9 #[.agg #[v], .int .i64 s, n1, ws1, u1] w fun e w' => e = .returned (.bool true) ∧ Below w.heap.size w w' := by
  obtain ⟨A, cap, rfl, _⟩ := id h
  obtain ⟨An, capn, rfl, hln, hcn⟩ := id hn1
  obtain ⟨Aw, capw, rfl, hlw, hcw⟩ := id hws
  obtain ⟨Au, capu, rfl, hlu, hcu⟩ := id hu1
  unfold big at hln hlw hlu
  have Hcn := hid hcn
  have Hcw := hid hcw
  have Hcu := hid hcu
  clear hcn hcw hcu
  have hX := bal (Below.refl _ w) (.cells #[.slice A m.length cap] 24)
  have hbx : (w.alloc (.cells #[.slice A m.length cap] 24)).cell? ⟨w.heap.size, 0, none⟩ = some (.slice A m.length cap) := by simp
  have Hx := hid hX
  go_enter Tryd.func9, Tryd.ntmps9
  go_wp2_with fail
  generalize hWX : w.alloc (.cells #[.slice A m.length cap] 24) = X at *
  clear hX hWX
  have hX := Hx.out
  have hlt : w.heap.size < X.heap.size := World.block_lt_of_cell? _ _ hbx
  have hr := h.below hX
  have hn := hn1.below hX
  have hw := hws.below hX
  have hu := hu1.below hX
  have hTX := hT.on hX
  have B0 := Below.refl X.heap.size X
  refine (rValid_bool _ m true _ (hr.below B0) hv).mono ?_
  rintro e w1 ⟨rfl, h1⟩
  have B1 := btr B0 h1
  have c1 := (B1.cell (p := ⟨w.heap.size, 0, none⟩) hlt).trans hbx
  go_wp2_with fail
  refine (rState_bool _ m s false _ (hr.below B1) hs).mono ?_
  rintro e w2 ⟨rfl, h2⟩
  have B2 := btr B1 h2
  have c2 := (B2.cell (p := ⟨w.heap.size, 0, none⟩) hlt).trans hbx
  go_wp2_with fail
  refine (awake_any _ (shaped_below hsh (btr hX B2)) (hT.on (btr hX B2))).mono ?_
  rintro e wz ⟨rfl, hz⟩
  go_wp2
  go_ret
  exact ⟨rfl, btr (btr hX B2) hz⟩

set_option maxRecDepth 100000 in
set_option maxHeartbeats 2000000 in
theorem names_rest (v n1 ws1 u1 : Value) (m ws : List (List Int)) (s : Nat) (nl ul : List Int) (w : World) (hsh : w.ShapedOpen Tryd.prog) (hT : Tab w) (h : Rows w v m) (hn1 : Ints w n1 nl) (hws : RowsN w ws1 ws) (hu1 : Ints w u1 ul)
    (hv : validM m = true) (hst : s < m.length) :
    Calls Tryd.prog 9 #[.agg #[v], .int .i64 s, n1, ws1, u1] w fun e w' => e = .returned (.bool true) ∧ Below w.heap.size w w' := by
  obtain ⟨A, cap, rfl, _⟩ := id h
  obtain ⟨An, capn, rfl, hln, hcn⟩ := id hn1
  obtain ⟨Aw, capw, rfl, hlw, hcw⟩ := id hws
  obtain ⟨Au, capu, rfl, hlu, hcu⟩ := id hu1
  unfold big at hln hlw hlu
  have Hcn := hid hcn
  have Hcw := hid hcw
  have Hcu := hid hcu
  clear hcn hcw hcu
  have hX := bal (Below.refl _ w) (.cells #[.slice A m.length cap] 24)
  have hbx : (w.alloc (.cells #[.slice A m.length cap] 24)).cell? ⟨w.heap.size, 0, none⟩ = some (.slice A m.length cap) := by simp
  have Hx := hid hX
  have hml := (valid_parts hv).2.1
  have hs : stateM m s = true := inB_true (by omega)
  obtain ⟨R, HR⟩ : ∃ R, Hid (renM m nl = R) := ⟨_, hid rfl⟩
  obtain ⟨C, HC⟩ : ∃ C, Hid (powerM m ws = C) := ⟨_, hid rfl⟩
  obtain ⟨t, Ht⟩ : ∃ t, Hid (runM m s ul = t) := ⟨_, hid rfl⟩
  go_enter Tryd.func9, Tryd.ntmps9
  go_wp2_with fail
  generalize hWX : w.alloc (.cells #[.slice A m.length cap] 24) = X at *
  clear hX hWX
  have hX := Hx.out
  have hlt : w.heap.size < X.heap.size := World.block_lt_of_cell? _ _ hbx
  have hr := h.below hX
  have hn := hn1.below hX
  have hw := hws.below hX
  have hu := hu1.below hX
  have hTX := hT.on hX
  have B0 := Below.refl X.heap.size X
  refine (rValid_bool _ m true _ (hr.below B0) hv).mono ?_
  rintro e w1 ⟨rfl, h1⟩
  have B1 := btr B0 h1
  have c1 := (B1.cell (p := ⟨w.heap.size, 0, none⟩) hlt).trans hbx
  go_wp2_with fail
  refine (rState_bool _ m s true _ (hr.below B1) hs).mono ?_
  rintro e w2 ⟨rfl, h2⟩
  have B2 := btr B1 h2
  have c2 := (B2.cell (p := ⟨w.heap.size, 0, none⟩) hlt).trans hbx
  have hr2 := hr.below B2
  have hn2 := hn.below B2
  have hw2 := hw.below B2
  have hu2 := hu.below B2
  have hT2 := hTX.on B2
  have hX2 := btr hX B2
  have hlt2 : w.heap.size < w2.heap.size := World.block_lt_of_cell? _ _ c2
  clear hr hn hw hu h1 h2 B0 B1 B2 c1 hTX hbx hlt hX
  go_upto_region 3 with fail
  go_cut [44] from 35 to 44 (fun b wc => b = .bool (namesM nl m.length && isWordM m ul) ∧ Below w2.heap.size w2 wc)
  case first =>
    cases hnm : namesM nl m.length with
    | false =>
      go_wp2_with fail
      refine (rNames_bool _ nl m.length false _ (by omega) hn2 hnm).mono ?_
      rintro e w3 ⟨rfl, rfl⟩
      go_wp2_with fail
      go_meet
      exact ⟨by rw [hnm]; rfl, Below.refl _ _⟩
    | true =>
      go_wp2_with fail
      refine (rNames_bool _ nl m.length true _ (by omega) hn2 hnm).mono ?_
      rintro e w3 ⟨rfl, rfl⟩
      cases hwm : isWordM m ul with
      | false =>
        go_wp2_with fail
        refine (rWord_bool _ _ m ul false _ hr2 hv hu2 hwm).mono ?_
        rintro e w4 ⟨rfl, h4⟩
        go_wp2_with fail
        go_meet
        exact ⟨by rw [hnm, hwm]; rfl, h4⟩
      | true =>
        go_wp2_with fail
        refine (rWord_bool _ _ m ul true _ hr2 hv hu2 hwm).mono ?_
        rintro e w4 ⟨rfl, h4⟩
        go_wp2_with fail
        go_meet
        exact ⟨by rw [hnm, hwm]; rfl, h4⟩
  case rest =>
    obtain ⟨rfl, C0⟩ := hcut
    have d0 := (C0.cell (p := ⟨w.heap.size, 0, none⟩) hlt2).trans c2
    go_upto_if 44 with fail
    go_cut [] from 11 to 85 (fun wc => Below w2.heap.size w2 wc)
    case first =>
      cases hb : (namesM nl m.length && isWordM m ul) with
      | false =>
        go_wp2_with fail
        go_meet
        exact C0
      | true =>
        obtain ⟨hnm, hwm⟩ := Bool.and_eq_true_iff.1 hb
        have hRv : validM R = true := by rw [← HR.out]; exact renM_valid hv hnm
        have hRl : R.length = m.length := by rw [← HR.out]; exact renM_length m nl
        have hRw : isWordM R ul = true := by
          rw [← HR.out]
          have := renM_letters hv hnm
          simp only [isWordM, this]
          exact hwm
        have hnlen : nl.length = m.length := by rw [namesM, Bool.and_eq_true, decide_eq_true_eq] at hnm; exact hnm.1
        have htl : t < m.length := by rw [← Ht.out]; exact runM_lt hv ul s hst (word_all hwm)
        have hbd := fun (i : Nat) (hi : i < m.length) => names_bound hnm (nl.getD i 0) (by rw [getD_elem nl i (by omega)]; exact List.getElem_mem _)
        obtain ⟨bn, on, hAn, hcs⟩ := Hcn.out s (by omega)
        subst hAn
        obtain ⟨bn', on', hAn', hct⟩ := Hcn.out t (by omega)
        cases hAn'
        have hq0 := hbd s hst
        have hp0 := hbd t htl
        have hrun : runM R (nl.getD s 0).toNat ul = (nl.getD t 0).toNat := by rw [← HR.out, ← Ht.out]; exact run_ren hv hnm ul s hst (word_all hwm)
        obtain ⟨q, hq⟩ : ∃ q : Nat, nl.getD s 0 = q := ⟨(nl.getD s 0).toNat, by omega⟩
        obtain ⟨p, hp⟩ : ∃ p : Nat, nl.getD t 0 = p := ⟨(nl.getD t 0).toNat, by omega⟩
        rw [hq] at hcs hrun hq0
        rw [hp] at hct hrun hp0
        rw [Int.toNat_natCast, Int.toNat_natCast] at hrun
        have HRun := hid hrun
        have hqR : q < R.length := by omega
        have hblk : bn < w.heap.size := World.block_lt_of_cell? _ _ hct
        have hw2s := hX2.size
        have hcs2 := (hX2.cell (p := ⟨bn, on + s, none⟩) hblk).trans hcs
        have hct2 := (hX2.cell (p := ⟨bn, on + t, none⟩) hblk).trans hct
        have hbn2 : bn < w2.heap.size := by omega
        have is1 : (s : Int) < nl.length := by omega
        have is2 : (t : Int) < nl.length := by omega
        have Hnl := hid hnlen
        have HRl := hid hRl
        clear hcs hct hq hp hrun hnlen hbd hRl
        go_wp2_with fail
        refine (Renamed_as _ _ m R nl _ (hr2.below C0) (hn2.below C0) hv hnm HR).mono ?_
        rintro e y1 ⟨r1, rfl, i1, k1⟩
        obtain ⟨A1, q1, rfl, _⟩ := id i1
        have C1 := btr C0 k1
        have d1 := (C1.cell (p := ⟨w.heap.size, 0, none⟩) hlt2).trans c2
        have C2 := bal C1 (.cells #[.slice A1 R.length q1] 24)
        have d2 := (C2.cell (p := ⟨w.heap.size, 0, none⟩) hlt2).trans c2
        have e2 : (y1.alloc (.cells #[.slice A1 R.length q1] 24)).cell? ⟨y1.heap.size, 0, none⟩ = some (.slice A1 R.length q1) := by simp
        have i2 := i1.alloc (.cells #[.slice A1 R.length q1] 24)
        have hy1 : y1.heap.size < (y1.alloc (.cells #[.slice A1 R.length q1] 24)).heap.size := by simp
        go_wp2_with fail
        generalize hYY : y1.alloc (.cells #[.slice A1 R.length q1] 24) = Y at *
        clear hYY
        refine (Run_as _ _ m s t ul _ (hr2.below C2) (hu2.below C2) hv hst hwm Ht).mono ?_
        rintro e y2 ⟨rfl, k2⟩
        have C3 := btr C2 k2
        have e3 := (k2.cell (p := ⟨y1.heap.size, 0, none⟩) hy1).trans e2
        have i3 := i2.below k2
        have u3 := hu2.below C3
        have s3 := (C3.cell (p := ⟨bn, on + s, none⟩) hbn2).trans hcs2
        have t3 := (C3.cell (p := ⟨bn, on + t, none⟩) hbn2).trans hct2
        have hs3 := C3.size
        have hbn3 : bn < y2.heap.size := by omega
        have hy3 : y1.heap.size < y2.heap.size := World.block_lt_of_cell? _ _ e3
        clear C0 C1 C2 k1 k2 d0 d1 d2 e2 i1 i2 hcs2 hct2
        go_wp2_with fail
        go_region_with (go_at_call 15; refine (Run_as _ _ R q p ul _ (i3.below (by first | exact Below.refl _ _ | assumption | exact Below.drew (by first | exact Below.refl _ _ | assumption))) (u3.below (by first | exact Below.refl _ _ | assumption | exact Below.drew (by first | exact Below.refl _ _ | assumption))) hRv hqR hRw HRun).mono ?_; rintro e y4 ⟨rfl, k4⟩; have K4 : Below y2.heap.size y2 y4 := btr (by first | exact Below.refl _ _ | assumption | exact Below.drew (by first | exact Below.refl _ _ | assumption)) k4; have s4 := (K4.cell (p := ⟨bn, on + s, none⟩) hbn3).trans s3; have t4 := (K4.cell (p := ⟨bn, on + t, none⟩) hbn3).trans t3; have e4 := (K4.cell (p := ⟨y1.heap.size, 0, none⟩) hy3).trans e3)
        all_goals go_wp2_with fail
        all_goals go_meet
        all_goals exact btr C3 (by first | assumption | exact Below.drew (by assumption))
    case rest =>
      have D0 : Below w2.heap.size w2 wc := hcut
      clear hcut C0 d0
      have d0 := (D0.cell (p := ⟨w.heap.size, 0, none⟩) hlt2).trans c2
      go_wp2_with fail
      cases hwm : wordsM m ws with
      | false =>
        refine (rWords_bool _ _ m ws false _ (hr2.below D0) hv (hw2.rows.below D0) hwm).mono ?_
        rintro e y1 ⟨rfl, k1⟩
        have D1 := btr D0 k1
        go_wp2_with fail
        refine (awake_any _ (shaped_below hsh (btr hX2 D1)) (hT.on (btr hX2 D1))).mono ?_
        rintro e wz ⟨rfl, hz⟩
        go_wp2
        go_ret
        exact ⟨rfl, btr (btr hX2 D1) hz⟩
      | true =>
        refine (rWords_bool _ _ m ws true _ (hr2.below D0) hv (hw2.rows.below D0) hwm).mono ?_
        rintro e y1 ⟨rfl, k1⟩
        have D1 := btr D0 k1
        clear k1
        by_cases hul : 40000 < ul.length
        · have hul' : decide ((40000 : Int) < ul.length) = true := by simp; omega
          go_wp2_with fail
          refine (awake_any _ (shaped_below hsh (btr hX2 D1)) (hT.on (btr hX2 D1))).mono ?_
          rintro e wz ⟨rfl, hz⟩
          go_wp2
          go_ret
          exact ⟨rfl, btr (btr hX2 D1) hz⟩
        have hul' : decide ((40000 : Int) < ul.length) = false := by simp; omega
        have hulb : ul.length ≤ 40000 := by omega
        clear hul
        go_wp2_with fail
        cases hbl : ul.all (inB 0 ((ws.length : Int) - 1)) with
        | false =>
          refine (rBelow_bool _ ul ws.length false _ (hu2.below D1) (by omega) hbl).mono ?_
          rintro e y2 ⟨rfl, rfl⟩
          go_wp2_with fail
          refine (awake_any _ (shaped_below hsh (btr hX2 D1)) (hT.on (btr hX2 D1))).mono ?_
          rintro e wz ⟨rfl, hz⟩
          go_wp2
          go_ret
          exact ⟨rfl, btr (btr hX2 D1) hz⟩
        | true =>
          refine (rBelow_bool _ ul ws.length true _ (hu2.below D1) (by omega) hbl).mono ?_
          rintro e y2 ⟨rfl, rfl⟩
          have d1 := (D1.cell (p := ⟨w.heap.size, 0, none⟩) hlt2).trans c2
          have hr3 := hr2.below D1
          have hw3 := hw2.below D1
          have hu3 := hu2.below D1
          have hX3 := btr hX2 D1
          have hlt3 : w.heap.size < y1.heap.size := World.block_lt_of_cell? _ _ d1
          obtain ⟨hwl, hwa⟩ := words_parts hwm
          have hCv : validM C = true := by rw [← HC.out]; exact powerM_valid hv hwm
          have hCl : C.length = m.length := by rw [← HC.out]; exact powerM_length m ws
          have hCw : isWordM C ul = true := by
            have h1 : letters C = ws.length := by rw [← HC.out]; exact powerM_letters hv
            simp only [isWordM, Bool.and_eq_true, decide_eq_true_eq, h1]
            exact ⟨hulb, hbl⟩
          have hrun : runM C s ul = runM m s (ul.flatMap fun x => ws.getD x.toNat []) := by rw [← HC.out]; exact run_power hv hwm ul s hst hbl
          have hwok : ∀ i, i < ws.length → isWordM m (ws.getD i []) = true := fun i hi => all_getD _ ws [] hwa i hi
          have hub : ∀ j, j < ul.length → 0 ≤ ul.getD j 0 ∧ ul.getD j 0 < (ws.length : Int) := fun j hj => by
            have := all_getD _ ul 0 hbl j hj
            rw [inB_iff] at this
            omega
          have HCl := hid hCl
          have Hrun := hid hrun
          have Hwok := hid hwok
          have Hub := hid hub
          clear hCl hrun hwok hub hr2 hw2 hu2 hX2 hT2 D0 D1 d0 c2 hlt2 hulb
          go_wp2_with fail
          go_loopw [17, 18] (fun v i wr => ∃ (k : Nat) (L : List Int), k ≤ ul.length ∧ i = .int .i64 k ∧ L.length ≤ 80000 ∧ wr.ownsRow y1.heap.size 3 1 v L.length (L.map fun x => .int .i64 x) ∧ L = ((ul.take k).flatMap fun x => ws.getD x.toNat []) ∧ L.all (inB 0 ((letters m : Int) - 1)) = true ∧ Below y1.heap.size y1 wr) (fun _ i _ => ul.length - (intOf i).toNat)
          case atStart => exact ⟨0, [], Nat.zero_le _, rfl, by simp, ⟨rfl, .inl ⟨rfl, rfl⟩⟩, rfl, rfl, Below.refl _ _⟩
          case round =>
            obtain ⟨k, L, hk, rfl, hL8, hO, hL, hLw, hB⟩ := hrel
            have HL := hid hL
            clear hL
            obtain ⟨AL, cL, rfl⟩ : ∃ A c, u17 = .slice A L.length c := by
              rcases hO.2 with ⟨he, h0⟩ | ⟨g, cap, cur, he, hg, _⟩
              · exact ⟨none, 0, by rw [he, h0]⟩
              · exact ⟨_, cap, he⟩
            have dr := (hB.cell (p := ⟨w.heap.size, 0, none⟩) hlt3).trans d1
            by_cases hbig : 40000 < L.length
            · have hb1 : decide ((L.length : Int) ≤ 40000) = false := by simp; omega
              have hb2 : decide ((40000 : Int) < L.length) = true := by simp; omega
              clear hbig
              by_cases hkl : k < ul.length
              all_goals
                go_wp2_with fail
                refine (awake_any _ (shaped_below hsh (btr hX3 hB)) (hT.on (btr hX3 hB))).mono ?_
                rintro e wz ⟨rfl, hz⟩
                go_wp2
                go_ret
                exact ⟨rfl, btr (btr hX3 hB) hz⟩
            · have hb1 : decide ((L.length : Int) ≤ 40000) = true := by simp; omega
              have hb2 : decide ((40000 : Int) < L.length) = false := by simp; omega
              have hL4 : L.length ≤ 40000 := by omega
              clear hbig
              by_cases hkl : k < ul.length
              · have hBw := btr hX3 hB
                obtain ⟨bu, ou, hAu, hcu⟩ := Hcu.out k hkl
                subst hAu
                have hcu2 := (hBw.cell (p := ⟨bu, ou + k, none⟩) (World.block_lt_of_cell? _ _ hcu)).trans hcu
                have hub := Hub.out k hkl
                have Hfl := hid (show ((ul.take (k + 1)).flatMap fun x => ws.getD x.toNat []) = ((ul.take k).flatMap fun x => ws.getD x.toNat []) ++ ws.getD (ul.getD k 0).toNat [] by
                  rw [List.take_succ_eq_append_getElem hkl, List.flatMap_append, getD_elem ul k hkl]; simp)
                generalize ul.getD k 0 = x at *
                obtain ⟨xn, rfl⟩ := Int.eq_ofNat_of_zero_le hub.1
                rw [Int.toNat_natCast] at Hfl
                have hxn : xn < ws.length := by omega
                obtain ⟨bw, ow, Ar, cr, hAw, hcw, hrow, hnil⟩ := Hcw.out xn hxn
                subst hAw
                have hcw2 := (hBw.cell (p := ⟨bw, ow + xn, none⟩) (World.block_lt_of_cell? _ _ hcw)).trans hcw
                have hroww := hrow.below hBw
                have hqw := Hwok.out xn hxn
                have hql : (ws.getD xn []).length ≤ 40000 := by simp only [isWordM, Bool.and_eq_true, decide_eq_true_eq] at hqw; exact hqw.1
                have hqa := word_all hqw
                have Hqa := hid hqa
                have hks : (k : Int) < ul.length := by omega
                have hxs : (xn : Int) < ws.length := by omega
                clear hcu hcw hrow hqw hqa
                generalize ws.getD xn [] = qw at *
                go_wp2_with (at_builtin; refine wpList_append_list rfl _ _ rfl y1.heap.size _ _ _ Ar cr qw rfl hO rfl hnil hroww hB.size (by omega) ?_; intro v1 wa ho1 hb1)
                go_roundw
                case rel => exact ⟨k + 1, L ++ qw, by omega, by go_num, by simp; omega, by simpa using ho1, by rw [Hfl.out, ← HL.out], by rw [List.all_append, hLw, Hqa.out]; rfl, hB.trans hb1⟩
                case measure => simp [intOf]; omega
              · obtain rfl : k = ul.length := by omega
                have hLf : L = ul.flatMap fun x => ws.getD x.toNat [] := by rw [HL.out, List.take_of_length_le (Nat.le_refl _)]
                have hrunL : runM C s ul = runM m s L := by rw [Hrun.out, ← hLf]
                have hLwd : isWordM m L = true := by simp only [isWordM, Bool.and_eq_true, decide_eq_true_eq]; exact ⟨hL4, hLw⟩
                obtain ⟨t2, Ht2⟩ : ∃ t2, Hid (runM m s L = t2) := ⟨_, hid rfl⟩
                have Ht3 : Hid (runM C s ul = t2) := hid (hrunL.trans Ht2.out)
                have hLI := Ints.of_own hO (by unfold big; omega)
                clear hLf hrunL hO
                have D2 := btr hX3 hB
                go_wp2_with fail
                refine (Power_as _ _ m ws C _ (hr3.below hB) (hw3.rows.below hB) hv hwm HC).mono ?_
                rintro e z1 ⟨r1, rfl, i1, k1⟩
                obtain ⟨A1, q1, rfl, _⟩ := id i1
                have f1 := (k1.cell (p := ⟨w.heap.size, 0, none⟩) (World.block_lt_of_cell? _ _ dr)).trans dr
                have hB1 := btr hB k1
                have hLI1 := hLI.below k1
                have hB2 := bal hB1 (.cells #[.slice A1 C.length q1] 24)
                have hLI2 := hLI1.alloc (.cells #[.slice A1 C.length q1] 24)
                have e2 : (z1.alloc (.cells #[.slice A1 C.length q1] 24)).cell? ⟨z1.heap.size, 0, none⟩ = some (.slice A1 C.length q1) := by simp
                have i2 := i1.alloc (.cells #[.slice A1 C.length q1] 24)
                have f2 := (hB2.cell (p := ⟨w.heap.size, 0, none⟩) hlt3).trans d1
                have hz1 : z1.heap.size < (z1.alloc (.cells #[.slice A1 C.length q1] 24)).heap.size := by simp
                go_wp2_with fail
                generalize hZZ : z1.alloc (.cells #[.slice A1 C.length q1] 24) = Z at *
                clear hZZ
                refine (Run_as _ _ m s t2 L _ (hr3.below hB2) hLI2 hv hst hLwd Ht2).mono ?_
                rintro e z2 ⟨rfl, k2⟩
                have hB3 := btr hB2 k2
                have e3 := (k2.cell (p := ⟨z1.heap.size, 0, none⟩) hz1).trans e2
                go_wp2_with fail
                refine (Run_as _ _ C s t2 ul _ (i2.below k2) (hu3.below hB3) hCv (by rw [HCl.out]; exact hst) hCw Ht3).mono ?_
                rintro e z3 ⟨rfl, k3⟩
                have hB4 := btr hB3 k3
                go_wp2_with fail
                refine (awake_any _ (shaped_below hsh (btr hX3 hB4)) (hT.on (btr hX3 hB4))).mono ?_
                rintro e wz ⟨rfl, hz⟩
                go_wp2
                go_ret
                exact ⟨rfl, btr (btr hX3 hB4) hz⟩

theorem names_any (v n1 ws1 u1 : Value) (m ws : List (List Int)) (s : Int) (nl ul : List Int) (w : World) (hsh : w.ShapedOpen Tryd.prog) (hT : Tab w) (h : Rows w v m) (hn1 : Ints w n1 nl) (hws : RowsN w ws1 ws) (hu1 : Ints w u1 ul) :
    Calls Tryd.prog 9 #[.agg #[v], .int .i64 s, n1, ws1, u1] w fun e w' => e = .returned (.bool true) ∧ Below w.heap.size w w' := by
  cases hv : validM m with
  | false => exact names_valid v n1 ws1 u1 m ws s nl ul w hsh hT h hn1 hws hu1 hv
  | true =>
    cases hs : stateM m s with
    | false => exact names_state v n1 ws1 u1 m ws s nl ul w hsh hT h hn1 hws hu1 hv hs
    | true =>
      have h' := inB_iff.1 hs
      obtain ⟨sn, rfl⟩ := Int.eq_ofNat_of_zero_le h'.1
      exact names_rest v n1 ws1 u1 m ws sn nl ul w hsh hT h hn1 hws hu1 hv (by omega)
end Go.Proofs.YtibaihchnbbokaaDoor
