/-
  The law of runs.
-/
import Derived.Test.YtibaihchnbbokaaDoorP4
import Derived.Test.YtibaihchnbbokaaDoorR2
import Derived.Deep.CutRange
namespace Go.Proofs.YtibaihchnbbokaaDoor
open Go.RowKit Go.Shelf

theorem rValid_bool (v : Value) (m : List (List Int)) (b : Bool) (w : World) (h : Rows w v m) (hb : validM m = b) :
    Calls Tryd.prog 17 #[.agg #[v]] w fun e w' => e = .returned (.bool b) ∧ Below w.heap.size w w' := by
  subst hb; exact rValid_any v m w h
theorem rState_bool (v : Value) (m : List (List Int)) (s : Int) (b : Bool) (w : World) (h : Rows w v m) (hb : stateM m s = b) :
    Calls Tryd.prog 18 #[.agg #[v], .int .i64 s] w fun e w' => e = .returned (.bool b) ∧ Below w.heap.size w w' := by
  subst hb; exact rState_any v m s w h
theorem rWord_bool (v u : Value) (m : List (List Int)) (l : List Int) (b : Bool) (w : World) (h : Rows w v m) (hv : validM m = true) (hu : Ints w u l) (hb : isWordM m l = b) :
    Calls Tryd.prog 19 #[.agg #[v], u] w fun e w' => e = .returned (.bool b) ∧ Below w.heap.size w w' := by
  subst hb; exact rWord_any v u m l w h hv hu

set_option maxHeartbeats 1000000 in
theorem runs_form (v u : Value) (m : List (List Int)) (s : Int) (l : List Int) (w : World) (hsh : w.ShapedOpen Tryd.prog) (hT : Tab w) (h : Rows w v m) (hu : Ints w u l) (hv : validM m = false) :
    Calls Tryd.prog 3 #[.agg #[v], .int .i64 s, u] w fun e w' => e = .returned (.bool true) ∧ Below w.heap.size w w' := by
  have hr := h.alloc (.cells #[v] 24)
  have hur := hu.alloc (.cells #[v] 24)
  obtain ⟨A, cap, rfl, _⟩ := id h
  obtain ⟨Au, capu, rfl, _⟩ := id hu
  go_enter Tryd.func3, Tryd.ntmps3
  go_wp2_with fail
  refine (Run_form _ _ m s l _ hr hur hv).mono ?_
  rintro e X ⟨rfl, hX⟩
  have hBX : Below w.heap.size w X := btr (bal (Below.refl _ w) _) hX
  have hbx : X.cell? ⟨w.heap.size, 0, none⟩ = some (.slice A m.length cap) := (hX.cell (p := ⟨w.heap.size, 0, none⟩) (by simp)).trans (by simp)
  have hlt : w.heap.size < X.heap.size := World.block_lt_of_cell? _ _ hbx
  have hrX := h.below hBX
  have huX := hu.below hBX
  clear hr hur hX
  go_wp2_with fail
  go_cut [22] from 18 to 22 (fun b wc => b = .bool false ∧ Below X.heap.size X wc)
  case first =>
    go_region_with (first
      | (go_at_call 16; refine (Valid_bool _ m false _ (hrX.below (by first | exact Below.refl _ _ | assumption | exact Below.drew (by first | exact Below.refl _ _ | assumption))) hv).mono ?_; rintro e wA ⟨rfl, hA⟩; have hBA : Below X.heap.size X wA := btr (by first | exact Below.refl _ _ | assumption | exact Below.drew (by first | exact Below.refl _ _ | assumption)) hA; have hbA := (hBA.cell (p := ⟨w.heap.size, 0, none⟩) hlt).trans hbx)
      | (go_at_call 17; refine (rValid_bool _ m false _ (hrX.below (by first | exact Below.refl _ _ | assumption | exact Below.drew (by first | exact Below.refl _ _ | assumption))) hv).mono ?_; rintro e wA ⟨rfl, hA⟩; have hBA : Below X.heap.size X wA := btr (by first | exact Below.refl _ _ | assumption | exact Below.drew (by first | exact Below.refl _ _ | assumption)) hA; have hbA := (hBA.cell (p := ⟨w.heap.size, 0, none⟩) hlt).trans hbx))
    all_goals (go_wp2_with fail; go_meet; exact ⟨rfl, by first | assumption | exact Below.drew (by assumption)⟩)
  case rest =>
    obtain ⟨rfl, hBc⟩ := hcut
    have hbc := (hBc.cell (p := ⟨w.heap.size, 0, none⟩) hlt).trans hbx
    have hrc := hrX.below hBc
    go_wp2_with fail
    refine (rValid_bool _ m false _ hrc hv).mono ?_
    rintro e wd ⟨rfl, hd⟩
    have hBd := btr hBc hd
    have hbd := (hBd.cell (p := ⟨w.heap.size, 0, none⟩) hlt).trans hbx
    have hrd := hrX.below hBd
    go_wp2_with fail
    refine (awake_any _ (shaped_below hsh (btr hBX hBd)) (hT.on (btr hBX hBd))).mono ?_
    rintro e wz ⟨rfl, hz⟩
    go_wp2
    go_ret
    exact ⟨rfl, btr (btr hBX hBd) hz⟩

set_option maxHeartbeats 1000000 in
theorem runs_state (v u : Value) (m : List (List Int)) (s : Int) (l : List Int) (w : World) (hsh : w.ShapedOpen Tryd.prog) (hT : Tab w) (h : Rows w v m) (hu : Ints w u l) (hv : validM m = true) (hs : stateM m s = false) :
    Calls Tryd.prog 3 #[.agg #[v], .int .i64 s, u] w fun e w' => e = .returned (.bool true) ∧ Below w.heap.size w w' := by
  have hr := h.alloc (.cells #[v] 24)
  have hur := hu.alloc (.cells #[v] 24)
  obtain ⟨A, cap, rfl, _⟩ := id h
  obtain ⟨Au, capu, rfl, _⟩ := id hu
  go_enter Tryd.func3, Tryd.ntmps3
  go_wp2_with fail
  refine (Run_state _ _ m s l _ hr hur hv hs).mono ?_
  rintro e X ⟨rfl, hX⟩
  have hBX : Below w.heap.size w X := btr (bal (Below.refl _ w) _) hX
  have hbx : X.cell? ⟨w.heap.size, 0, none⟩ = some (.slice A m.length cap) := (hX.cell (p := ⟨w.heap.size, 0, none⟩) (by simp)).trans (by simp)
  have hlt : w.heap.size < X.heap.size := World.block_lt_of_cell? _ _ hbx
  have hrX := h.below hBX
  have huX := hu.below hBX
  clear hr hur hX
  go_wp2_with fail
  go_cut [22] from 18 to 22 (fun b wc => b = .bool false ∧ Below X.heap.size X wc)
  case first =>
    go_region_with (first
      | (go_at_call 16; refine (Valid_bool _ m true _ (hrX.below (by first | exact Below.refl _ _ | assumption | exact Below.drew (by first | exact Below.refl _ _ | assumption))) hv).mono ?_; rintro e wA ⟨rfl, hA⟩; have hBA : Below X.heap.size X wA := btr (by first | exact Below.refl _ _ | assumption | exact Below.drew (by first | exact Below.refl _ _ | assumption)) hA; have hbA := (hBA.cell (p := ⟨w.heap.size, 0, none⟩) hlt).trans hbx)
      | (go_at_call 17; refine (rValid_bool _ m true _ (hrX.below (by first | exact Below.refl _ _ | assumption | exact Below.drew (by first | exact Below.refl _ _ | assumption))) hv).mono ?_; rintro e wA ⟨rfl, hA⟩; have hBA : Below X.heap.size X wA := btr (by first | exact Below.refl _ _ | assumption | exact Below.drew (by first | exact Below.refl _ _ | assumption)) hA; have hbA := (hBA.cell (p := ⟨w.heap.size, 0, none⟩) hlt).trans hbx))
    all_goals (go_wp2_with fail; go_meet; exact ⟨rfl, by first | assumption | exact Below.drew (by assumption)⟩)
  case rest =>
    obtain ⟨rfl, hBc⟩ := hcut
    have hbc := (hBc.cell (p := ⟨w.heap.size, 0, none⟩) hlt).trans hbx
    have hrc := hrX.below hBc
    go_wp2_with fail
    refine (rValid_bool _ m true _ hrc hv).mono ?_
    rintro e wd ⟨rfl, hd⟩
    have hBd := btr hBc hd
    have hbd := (hBd.cell (p := ⟨w.heap.size, 0, none⟩) hlt).trans hbx
    have hrd := hrX.below hBd
    go_wp2_with fail
    refine (rState_bool _ m _ false _ hrd hs).mono ?_
    rintro e we ⟨rfl, he⟩
    have hBe := btr hBd he
    have hbe := (hBe.cell (p := ⟨w.heap.size, 0, none⟩) hlt).trans hbx
    have hre := hrX.below hBe
    have hue := huX.below hBe
    go_wp2_with fail
    refine (awake_any _ (shaped_below hsh (btr hBX hBe)) (hT.on (btr hBX hBe))).mono ?_
    rintro e wz ⟨rfl, hz⟩
    go_wp2
    go_ret
    exact ⟨rfl, btr (btr hBX hBe) hz⟩

set_option maxHeartbeats 1000000 in
theorem runs_word (v u : Value) (m : List (List Int)) (s : Int) (l : List Int) (w : World) (hsh : w.ShapedOpen Tryd.prog) (hT : Tab w) (h : Rows w v m) (hu : Ints w u l) (hv : validM m = true) (hs : stateM m s = true) (hw : isWordM m l = false) :
    Calls Tryd.prog 3 #[.agg #[v], .int .i64 s, u] w fun e w' => e = .returned (.bool true) ∧ Below w.heap.size w w' := by
  have hr := h.alloc (.cells #[v] 24)
  have hur := hu.alloc (.cells #[v] 24)
  obtain ⟨A, cap, rfl, _⟩ := id h
  obtain ⟨Au, capu, rfl, _⟩ := id hu
  go_enter Tryd.func3, Tryd.ntmps3
  go_wp2_with fail
  refine (Run_word _ _ m s l _ hr hur hv hs hw).mono ?_
  rintro e X ⟨rfl, hX⟩
  have hBX : Below w.heap.size w X := btr (bal (Below.refl _ w) _) hX
  have hbx : X.cell? ⟨w.heap.size, 0, none⟩ = some (.slice A m.length cap) := (hX.cell (p := ⟨w.heap.size, 0, none⟩) (by simp)).trans (by simp)
  have hlt : w.heap.size < X.heap.size := World.block_lt_of_cell? _ _ hbx
  have hrX := h.below hBX
  have huX := hu.below hBX
  clear hr hur hX
  go_wp2_with fail
  go_cut [22] from 18 to 22 (fun b wc => b = .bool false ∧ Below X.heap.size X wc)
  case first =>
    go_region_with (first
      | (go_at_call 16; refine (Valid_bool _ m true _ (hrX.below (by first | exact Below.refl _ _ | assumption | exact Below.drew (by first | exact Below.refl _ _ | assumption))) hv).mono ?_; rintro e wA ⟨rfl, hA⟩; have hBA : Below X.heap.size X wA := btr (by first | exact Below.refl _ _ | assumption | exact Below.drew (by first | exact Below.refl _ _ | assumption)) hA; have hbA := (hBA.cell (p := ⟨w.heap.size, 0, none⟩) hlt).trans hbx)
      | (go_at_call 17; refine (rValid_bool _ m true _ (hrX.below (by first | exact Below.refl _ _ | assumption | exact Below.drew (by first | exact Below.refl _ _ | assumption))) hv).mono ?_; rintro e wA ⟨rfl, hA⟩; have hBA : Below X.heap.size X wA := btr (by first | exact Below.refl _ _ | assumption | exact Below.drew (by first | exact Below.refl _ _ | assumption)) hA; have hbA := (hBA.cell (p := ⟨w.heap.size, 0, none⟩) hlt).trans hbx))
    all_goals (go_wp2_with fail; go_meet; exact ⟨rfl, by first | assumption | exact Below.drew (by assumption)⟩)
  case rest =>
    obtain ⟨rfl, hBc⟩ := hcut
    have hbc := (hBc.cell (p := ⟨w.heap.size, 0, none⟩) hlt).trans hbx
    have hrc := hrX.below hBc
    go_wp2_with fail
    refine (rValid_bool _ m true _ hrc hv).mono ?_
    rintro e wd ⟨rfl, hd⟩
    have hBd := btr hBc hd
    have hbd := (hBd.cell (p := ⟨w.heap.size, 0, none⟩) hlt).trans hbx
    have hrd := hrX.below hBd
    go_wp2_with fail
    refine (rState_bool _ m _ true _ hrd hs).mono ?_
    rintro e we ⟨rfl, he⟩
    have hBe := btr hBd he
    have hbe := (hBe.cell (p := ⟨w.heap.size, 0, none⟩) hlt).trans hbx
    have hre := hrX.below hBe
    have hue := huX.below hBe
    go_wp2_with fail
    refine (rWord_bool _ _ m l false _ hre hv hue hw).mono ?_
    rintro e wf ⟨rfl, hf⟩
    have hBf := btr hBe hf
    have hbf := (hBf.cell (p := ⟨w.heap.size, 0, none⟩) hlt).trans hbx
    have hrf := hrX.below hBf
    have huf := huX.below hBf
    go_wp2_with fail
    refine (awake_any _ (shaped_below hsh (btr hBX hBf)) (hT.on (btr hBX hBf))).mono ?_
    rintro e wz ⟨rfl, hz⟩
    go_wp2
    go_ret
    exact ⟨rfl, btr (btr hBX hBf) hz⟩

set_option maxHeartbeats 1000000 in
theorem runs_ok (v u : Value) (m : List (List Int)) (sn : Nat) (l : List Int) (w : World) (hsh : w.ShapedOpen Tryd.prog) (hT : Tab w) (h : Rows w v m) (hu : Ints w u l) (hv : validM m = true) (hs' : sn < m.length) (hs : stateM m sn = true) (hw : isWordM m l = true) :
    Calls Tryd.prog 3 #[.agg #[v], .int .i64 sn, u] w fun e w' => e = .returned (.bool true) ∧ Below w.heap.size w w' := by
  have hr := h.alloc (.cells #[v] 24)
  have hur := hu.alloc (.cells #[v] 24)
  obtain ⟨A, cap, rfl, _⟩ := id h
  obtain ⟨Au, capu, rfl, _⟩ := id hu
  go_enter Tryd.func3, Tryd.ntmps3
  go_wp2_with fail
  refine (Run_ok _ _ m sn l _ hr hur hv hs' hw).mono ?_
  rintro e X ⟨rfl, hX⟩
  have hBX : Below w.heap.size w X := btr (bal (Below.refl _ w) _) hX
  have hbx : X.cell? ⟨w.heap.size, 0, none⟩ = some (.slice A m.length cap) := (hX.cell (p := ⟨w.heap.size, 0, none⟩) (by simp)).trans (by simp)
  have hlt : w.heap.size < X.heap.size := World.block_lt_of_cell? _ _ hbx
  have hrX := h.below hBX
  have huX := hu.below hBX
  clear hr hur hX
  go_wp2_with fail
  go_cut [22] from 18 to 22 (fun b wc => b = .bool false ∧ Below X.heap.size X wc)
  case first =>
    go_region_with (first
      | (go_at_call 16; refine (Valid_bool _ m true _ (hrX.below (by first | exact Below.refl _ _ | assumption | exact Below.drew (by first | exact Below.refl _ _ | assumption))) hv).mono ?_; rintro e wA ⟨rfl, hA⟩; have hBA : Below X.heap.size X wA := btr (by first | exact Below.refl _ _ | assumption | exact Below.drew (by first | exact Below.refl _ _ | assumption)) hA; have hbA := (hBA.cell (p := ⟨w.heap.size, 0, none⟩) hlt).trans hbx)
      | (go_at_call 17; refine (rValid_bool _ m true _ (hrX.below (by first | exact Below.refl _ _ | assumption | exact Below.drew (by first | exact Below.refl _ _ | assumption))) hv).mono ?_; rintro e wA ⟨rfl, hA⟩; have hBA : Below X.heap.size X wA := btr (by first | exact Below.refl _ _ | assumption | exact Below.drew (by first | exact Below.refl _ _ | assumption)) hA; have hbA := (hBA.cell (p := ⟨w.heap.size, 0, none⟩) hlt).trans hbx))
    all_goals (go_wp2_with fail; go_meet; exact ⟨rfl, by first | assumption | exact Below.drew (by assumption)⟩)
  case rest =>
    obtain ⟨rfl, hBc⟩ := hcut
    have hbc := (hBc.cell (p := ⟨w.heap.size, 0, none⟩) hlt).trans hbx
    have hrc := hrX.below hBc
    go_wp2_with fail
    refine (rValid_bool _ m true _ hrc hv).mono ?_
    rintro e wd ⟨rfl, hd⟩
    have hBd := btr hBc hd
    have hbd := (hBd.cell (p := ⟨w.heap.size, 0, none⟩) hlt).trans hbx
    have hrd := hrX.below hBd
    go_wp2_with fail
    refine (rState_bool _ m _ true _ hrd hs).mono ?_
    rintro e we ⟨rfl, he⟩
    have hBe := btr hBd he
    have hbe := (hBe.cell (p := ⟨w.heap.size, 0, none⟩) hlt).trans hbx
    have hre := hrX.below hBe
    have hue := huX.below hBe
    go_wp2_with fail
    refine (rWord_bool _ _ m l true _ hre hv hue hw).mono ?_
    rintro e wf ⟨rfl, hf⟩
    have hBf := btr hBe hf
    have hbf := (hBf.cell (p := ⟨w.heap.size, 0, none⟩) hlt).trans hbx
    have hrf := hrX.below hBf
    have huf := huX.below hBf
    go_wp2_with fail
    refine (rRun_any _ _ m sn l _ hrf huf hv hs' hw).mono ?_
    rintro e wg ⟨rfl, hg⟩
    have hBg := btr hBf hg
    generalize runM m sn l = y at *
    go_wp2_with fail
    refine (awake_any _ (shaped_below hsh (btr hBX hBg)) (hT.on (btr hBX hBg))).mono ?_
    rintro e wz ⟨rfl, hz⟩
    go_wp2
    go_ret
    exact ⟨rfl, btr (btr hBX hBg) hz⟩

theorem runs_any (v u : Value) (m : List (List Int)) (s : Int) (l : List Int) (w : World) (hsh : w.ShapedOpen Tryd.prog) (hT : Tab w) (h : Rows w v m) (hu : Ints w u l) :
    Calls Tryd.prog 3 #[.agg #[v], .int .i64 s, u] w fun e w' => e = .returned (.bool true) ∧ Below w.heap.size w w' := by
  cases hv : validM m with
  | false => exact runs_form v u m s l w hsh hT h hu hv
  | true =>
    cases hs : stateM m s with
    | false => exact runs_state v u m s l w hsh hT h hu hv hs
    | true =>
      cases hw : isWordM m l with
      | false => exact runs_word v u m s l w hsh hT h hu hv hs hw
      | true =>
        have h2 := hs
        rw [stateM, inB_iff] at h2
        obtain ⟨sn, rfl⟩ := Int.eq_ofNat_of_zero_le h2.1
        exact runs_ok v u m sn l w hsh hT h hu hv (by omega) hs hw
end Go.Proofs.YtibaihchnbbokaaDoor
