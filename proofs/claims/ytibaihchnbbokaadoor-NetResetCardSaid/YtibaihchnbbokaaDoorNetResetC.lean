/-
  Texts that the proof of the law stands on: K3.
-/
import Derived.Test.YtibaihchnbbokaaDoorNetResetB
namespace Go.Proofs.YtibaihchnbbokaaDoor
open Go.RowKit Go.Shelf
theorem rAll_as (n : Nat) (L : List Int) (w : World) (hn : n ≤ 1000) (hL : Hid (allM n = L)) :
    Calls Tryd.prog 55 #[.int .i64 n] w fun e w' => ∃ r, e = .returned r ∧ Ints w' r L ∧ Below w.heap.size w w' := by
  rw [← hL.out]; exact rAll_any n w hn
theorem Sinks_as (v : Value) (m L : List (List Int)) (w : World) (hT : Tab w) (h : Rows w v m) (hv : validM m = true) (hL : Hid (sinksTo m m.length = L)) :
    Calls Tryd.prog 48 #[.agg #[v]] w fun e w' => ∃ A c, e = .returned (.tuple #[.slice A L.length c, .int .i64 0]) ∧ Rows w' (.slice A L.length c) L ∧ Below w.heap.size w w' := by
  rw [← hL.out]
  refine (Sinks_ok v m w hT h hv).mono ?_
  rintro e w1 ⟨r, rfl, hr, hb⟩
  obtain ⟨A, c, rfl, _⟩ := id hr
  exact ⟨A, c, rfl, hr, hb⟩
set_option maxRecDepth 100000 in
set_option maxHeartbeats 1000000 in
theorem reset_awake1 (v u : Value) (m : List (List Int)) (ul : List Int) (w : World) (hT : Tab w) (h : Rows w v m) (hu : Ints w u ul) (hv : validM m = false) :
    Calls Tryd.prog 14 #[.agg #[v], u] w fun e w' => e = .returned (.bool true) ∧ Below w.heap.size w w' := by
  obtain ⟨A, cap, rfl, hml, -⟩ := id h
  have hX := bal (Below.refl _ w) (.cells #[.slice A m.length cap] 24)
  have hr := h.below hX
  have hTX := hT.on hX
  go_enter Tryd.func14, Tryd.ntmps14
  go_wp2_with fail
  refine (rValid_bool _ m false _ hr hv).mono ?_
  rintro e w1 ⟨rfl, h1⟩
  have hT1 := hTX.on h1
  go_wp2_with fail
  refine (awake2_any _ hT1).mono ?_
  rintro e w2 ⟨rfl, h2⟩
  go_wp2
  go_ret
  exact ⟨rfl, btr (btr hX h1) h2⟩
set_option maxRecDepth 100000 in
set_option maxHeartbeats 1000000 in
theorem reset_awake2 (v u : Value) (m : List (List Int)) (ul : List Int) (w : World) (hT : Tab w) (h : Rows w v m) (hu : Ints w u ul) (hv : validM m = true) (hw : isWordM m ul = false) :
    Calls Tryd.prog 14 #[.agg #[v], u] w fun e w' => e = .returned (.bool true) ∧ Below w.heap.size w w' := by
  obtain ⟨A, cap, rfl, hml, -⟩ := id h
  have hX := bal (Below.refl _ w) (.cells #[.slice A m.length cap] 24)
  have hbx := (Boxed.new w 24 (.slice A m.length cap)).cell
  have hr := h.below hX
  have hTX := hT.on hX
  have huX := hu.below hX
  go_enter Tryd.func14, Tryd.ntmps14
  go_wp2_with fail
  refine (rValid_bool _ m true _ hr hv).mono ?_
  rintro e w1 ⟨rfl, h1⟩
  have c1 := (h1.cell (p := ⟨w.heap.size, 0, none⟩) (World.block_lt_of_cell? _ _ hbx)).trans hbx
  go_wp2_with fail
  refine (rWord_bool _ _ m ul false _ (hr.below h1) hv (huX.below h1) hw).mono ?_
  rintro e w2 ⟨rfl, h2⟩
  have B2 := btr h1 h2
  have hT1 := hTX.on B2
  go_wp2_with fail
  refine (awake2_any _ hT1).mono ?_
  rintro e w3 ⟨rfl, h3⟩
  go_wp2
  go_ret
  exact ⟨rfl, btr (btr hX B2) h3⟩
set_option maxRecDepth 100000 in
set_option maxHeartbeats 1000000 in
theorem reset_ok (v u : Value) (m : List (List Int)) (ul : List Int) (w : World) (hT : Tab w) (h : Rows w v m) (hu : Ints w u ul) (hv : validM m = true) (hw : isWordM m ul = true) :
    Calls Tryd.prog 14 #[.agg #[v], u] w fun e w' => e = .returned (.bool true) ∧ Below w.heap.size w w' := by
  obtain ⟨p1, p2, p3, p4, p5⟩ := valid_parts hv
  obtain ⟨A, cap, rfl, hml, -⟩ := id h
  have hX := bal (Below.refl _ w) (.cells #[.slice A m.length cap] 24)
  have hbx := (Boxed.new w 24 (.slice A m.length cap)).cell
  have hr := h.below hX
  have hTX := hT.on hX
  have huX := hu.below hX
  have hone : ∀ x, imageM m (allM m.length) ul = [x] → ∃ L, sinksTo m m.length = [L] ∧ hasB L x = true := fun x hx => by
    obtain ⟨t, rfl, hall⟩ := image_one hv hw hx
    have hw' := hw
    simp only [isWordM, Bool.and_eq_true] at hw'
    exact reset_sinks hv hw'.2 hall
  have Hone := hid hone
  have hall := allM_set m
  obtain ⟨AL, HAL⟩ : ∃ L, Hid (allM m.length = L) := ⟨_, hid rfl⟩
  rw [HAL.out] at hall hone Hone
  obtain ⟨I, HI⟩ : ∃ L, Hid (imageM m AL ul = L) := ⟨_, hid rfl⟩
  obtain ⟨S, HS⟩ : ∃ L, Hid (sinksTo m m.length = L) := ⟨_, hid rfl⟩
  rw [HI.out, HS.out] at Hone
  clear hone p5
  go_enter Tryd.func14, Tryd.ntmps14
  go_wp2_with fail
  refine (rValid_bool _ m true _ hr hv).mono ?_
  rintro e w1 ⟨rfl, h1⟩
  have c1 := (h1.cell (p := ⟨w.heap.size, 0, none⟩) (World.block_lt_of_cell? _ _ hbx)).trans hbx
  go_wp2_with fail
  refine (rWord_bool _ _ m ul true _ (hr.below h1) hv (huX.below h1) hw).mono ?_
  rintro e w2 ⟨rfl, h2⟩
  have B2 := btr (btr hX h1) h2
  have c2 := (h2.cell (p := ⟨w.heap.size, 0, none⟩) (World.block_lt_of_cell? _ _ c1)).trans c1
  have hr2 := h.below B2
  have hu2 := hu.below B2
  have hT2 := hT.on B2
  have hlt2 := World.block_lt_of_cell? _ _ c2
  obtain ⟨Au, capu, rfl, -, -⟩ := id hu
  clear c1 h1 h2 hbx hX hr hTX huX
  go_upto_region 3 with fail
  go_cut [5, 6] from 19 to 28 (fun r e wc => e = .int .i64 0 ∧ (∃ A c, r = .slice A I.length c) ∧ Ints wc r I ∧ Below w2.heap.size w2 wc)
  case first =>
    go_region_held (fun w' => Below w2.heap.size w2 w' ∧ w'.cell? ⟨w.heap.size, 0, none⟩ = some (.slice A m.length cap)) (exact held_one c2 (by first | exact below_dr w2 1 | assumption)) (first
      | (go_at_call 55; go_must (refine (rAll_as m.length AL _ (by omega) HAL).mono ?_; rintro e y1 ⟨r1, rfl, i1, hy1⟩; have k1 : Below w2.heap.size w2 y1 := btr (by first | exact below_dr w2 1 | exact Below.refl _ _) hy1))
      | (go_at_call 22; go_must (refine (Image_as _ _ _ m AL ul I _ (hT2.on k1) (hr2.below k1) i1 (hu2.below k1) hv hall hw HI).mono ?_; rintro e y2 ⟨r2, rfl, i2, hy2⟩; have k2 : Below w2.heap.size w2 y2 := btr k1 hy2; obtain ⟨A2, q2, rfl, _⟩ := id i2)))
    all_goals (go_wp2_with fail; go_meet; exact ⟨rfl, ⟨_, _, rfl⟩, i2, k2⟩)
  case rest =>
    obtain ⟨rfl, ⟨A5, q5, rfl⟩, i5, C0⟩ := hcut
    have d0 := (C0.cell (p := ⟨w.heap.size, 0, none⟩) hlt2).trans c2
    go_wp2_with fail
    refine (Sinks_as _ m S _ (hT2.on C0) (hr2.below C0) hv HS).mono ?_
    rintro e y1 ⟨A7, q7, rfl, i7, f1⟩
    have C1 := btr C0 f1
    have i51 := i5.below f1
    have hTy := hT2.on C1
    have hBy := btr B2 C1
    clear d0 i5 f1 C0 HAL HI HS hr2 hu2 hT2
    by_cases hI : I.length = 1
    · obtain ⟨x, rfl⟩ : ∃ x, I = [x] := by
        match I, hI with
        | [x], _ => exact ⟨x, rfl⟩
      obtain ⟨L, rfl, hhas⟩ := Hone.out x rfl
      obtain ⟨A5', q5', hA5, -, hc5⟩ := id i51
      cases hA5
      obtain ⟨b5, o5, hA5, cell5⟩ := hc5 0 (by simp)
      subst hA5
      obtain ⟨A7', q7', hA7, -, hc7⟩ := id i7
      cases hA7
      obtain ⟨b7, o7, r7, hA7, cell7, i70⟩ := hc7 0 (by simp)
      subst hA7
      simp only [List.getD_cons_zero, Nat.add_zero] at cell5 cell7 i70
      obtain ⟨A8, q8, rfl, -, -⟩ := id i70
      clear hc5 hc7 Hone hI i7 i51
      have hlen1 : ([x] : List Int).length = 1 := rfl
      have hlen2 : ([L] : List (List Int)).length = 1 := rfl
      rw [hlen1] at *
      go_wp2_with fail
      have hc5 := later_cell cell5
      have hc7 := later_cell cell7
      refine wp_region_later (by kernel_rfl) (by kernel_rfl) ?_
      repeat (go_big_quiet_step ((first
        | (go_at_call 45; exact later_call (fun w' hb => awake2_any w' (hTy.on hb)))
        | (go_at_call 41; exact later_call (fun w' hb => (hasB_bool _ L x true _ (i70.below hb) hhas).mono fun e w1 he => ⟨he.1, by rw [← he.2]; exact Below.refl _ _⟩)))))
      refine wpQuiet_nil ?_
      intro z
      have k2 := z.below
      all_goals go_wp2
      all_goals go_ret
      all_goals exact ⟨rfl, btr hBy k2⟩
    · have hIs : ¬ ((I.length : Nat) : Int) = 1 := by omega
      have hne : (((I.length : Nat) : Int) != 1) = true := by simp; omega
      clear Hone i51 i7
      go_wp2_with fail
      refine wp_region_later (by kernel_rfl) (by kernel_rfl) ?_
      repeat (go_big_quiet_step ((go_at_call 45; exact later_call (fun w' hb => awake2_any w' (hTy.on hb)))))
      refine wpQuiet_nil ?_
      intro z
      have k2 := z.below
      all_goals go_wp2
      all_goals go_ret
      all_goals exact ⟨rfl, btr hBy k2⟩
theorem netReset_any (v u : Value) (m : List (List Int)) (ul : List Int) (w : World) (hT : Tab w) (h : Rows w v m) (hu : Ints w u ul) :
    Calls Tryd.prog 14 #[.agg #[v], u] w fun e w' => e = .returned (.bool true) ∧ Below w.heap.size w w' := by
  cases hv : validM m with
  | false => exact reset_awake1 v u m ul w hT h hu hv
  | true =>
    cases hw : isWordM m ul with
    | false => exact reset_awake2 v u m ul w hT h hu hv hw
    | true => exact reset_ok v u m ul w hT h hu hv hw
end Go.Proofs.YtibaihchnbbokaaDoor
