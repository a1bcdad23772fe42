/-
  The law of unions and complements, where all arguments are in order.
-/
import Derived.Test.YtibaihchnbbokaaDoorL7
namespace Go.Proofs.YtibaihchnbbokaaDoor
open Go.RowKit Go.Shelf

/-! The contracts with their lists under a name. -/
theorem Image_as (v s u : Value) (m : List (List Int)) (sl ul L : List Int) (w : World) (hT : Tab w) (h : Rows w v m) (hs : Ints w s sl) (hu : Ints w u ul) (hv : validM m = true) (h1 : isSetM m sl = true) (h2 : isWordM m ul = true) (he : Hid (imageM m sl ul = L)) :
    Calls Tryd.prog 22 #[.agg #[v], s, u] w (ListOk w L) := by
  rw [← he.out]; exact Image_ok v s u m sl ul w hT h hs hu hv h1 h2
theorem Preimage_as (v s u : Value) (m : List (List Int)) (sl ul L : List Int) (w : World) (hT : Tab w) (h : Rows w v m) (hs : Ints w s sl) (hu : Ints w u ul) (hv : validM m = true) (h1 : isSetM m sl = true) (h2 : isWordM m ul = true) (he : Hid (preimageM m sl ul = L)) :
    Calls Tryd.prog 23 #[.agg #[v], s, u] w (ListOk w L) := by
  rw [← he.out]; exact Preimage_ok v s u m sl ul w hT h hs hu hv h1 h2
theorem join_as (n : Nat) (v u : Value) (l k2 L : List Int) (w : World) (hn : n ≤ 60) (hl : Ints w v l) (hk2 : Ints w u k2) (he : Hid (pick (fun t => hasB l t || hasB k2 t) n = L)) :
    Calls Tryd.prog 39 #[.int .i64 n, v, u] w fun e w' => ∃ r, e = .returned r ∧ Ints w' r L ∧ Below w.heap.size w w' := by
  rw [← he.out]; exact join_any n v u l k2 w hn hl hk2
theorem rest_as (n : Nat) (v : Value) (l L : List Int) (w : World) (hn : n ≤ 60) (hl : Ints w v l) (he : Hid (pick (fun t => !hasB l t) n = L)) :
    Calls Tryd.prog 40 #[.int .i64 n, v] w fun e w' => ∃ r, e = .returned r ∧ Ints w' r L ∧ Below w.heap.size w w' := by
  rw [← he.out]; exact rest_any n v l w hn hl

set_option maxRecDepth 100000 in
set_option maxHeartbeats 1500000 in
theorem unions_ok (v s1 o1 u1 : Value) (m : List (List Int)) (sl ol ul : List Int) (w : World) (hsh : w.ShapedOpen Tryd.prog) (hT : Tab w) (h : Rows w v m) (hs1 : Ints w s1 sl) (ho1 : Ints w o1 ol) (hu1 : Ints w u1 ul)
    (hv : validM m = true) (hse : isSetM m sl = true) (hoe : isSetM m ol = true) (hwu : isWordM m ul = true) :
    Calls Tryd.prog 8 #[.agg #[v], s1, o1, u1] w fun e w' => e = .returned (.bool true) ∧ Below w.heap.size w w' := by
  obtain ⟨A, cap, rfl, _⟩ := id h
  obtain ⟨As, caps, rfl, _, _⟩ := id hs1
  obtain ⟨Ao, capo, rfl, _, _⟩ := id ho1
  obtain ⟨Au, capu, rfl, _, _⟩ := id hu1
  have hX := bal (Below.refl _ w) (.cells #[.slice A m.length cap] 24)
  have hbx : (w.alloc (.cells #[.slice A m.length cap] 24)).cell? ⟨w.heap.size, 0, none⟩ = some (.slice A m.length cap) := by simp
  have Hx := hid hX
  have hn := (valid_parts hv).2.1
  have hn0 := (valid_parts hv).1
  obtain ⟨J6, HJ6⟩ : ∃ L, Hid (pick (fun t => hasB sl t || hasB ol t) m.length = L) := ⟨_, hid rfl⟩
  obtain ⟨R6, HR6⟩ : ∃ L, Hid (pick (fun t => !hasB sl t) m.length = L) := ⟨_, hid rfl⟩
  have hJset : isSetM m J6 = true := by rw [← HJ6.out]; exact pick_set _
  have hRset : isSetM m R6 = true := by rw [← HR6.out]; exact pick_set _
  obtain ⟨I4, HI4⟩ : ∃ L, Hid (imageM m sl ul = L) := ⟨_, hid rfl⟩
  obtain ⟨I5, HI5⟩ : ∃ L, Hid (imageM m ol ul = L) := ⟨_, hid rfl⟩
  obtain ⟨P9, HP9⟩ : ∃ L, Hid (preimageM m sl ul = L) := ⟨_, hid rfl⟩
  obtain ⟨L6, HL6⟩ : ∃ L, Hid (pick (fun t => hasB I4 t || hasB I5 t) m.length = L) := ⟨_, hid rfl⟩
  obtain ⟨L10, HL10⟩ : ∃ L, Hid (pick (fun t => !hasB P9 t) m.length = L) := ⟨_, hid rfl⟩
  have HJ : Hid (imageM m J6 ul = L6) := hid (by rw [← HJ6.out, ← HL6.out, ← HI4.out, ← HI5.out]; exact image_join hv hse hoe hwu)
  have HR : Hid (preimageM m R6 ul = L10) := hid (by rw [← HR6.out, ← HL10.out, ← HP9.out]; exact preimage_rest hv hse hwu)
  have Hps : Hid (∀ t, t < m.length → hasB P9 t = hasB sl ((runM m t ul : Nat) : Int)) := hid (by rw [← HP9.out]; exact hasB_preimage hv hse hwu)
  go_enter Tryd.func8, Tryd.ntmps8
  go_wp2_with fail
  generalize hWX : w.alloc (.cells #[.slice A m.length cap] 24) = X at *
  clear hX hWX
  have hX := Hx.out
  have hlt : w.heap.size < X.heap.size := World.block_lt_of_cell? _ _ hbx
  have hr := h.below hX
  have hs := hs1.below hX
  have ho := ho1.below hX
  have hu := hu1.below hX
  have hTX := hT.on hX
  have B0 := Below.refl X.heap.size X
  refine (rValid_bool _ m true _ (hr.below B0) hv).mono ?_
  rintro e w1 ⟨rfl, h1⟩
  have B1 := btr B0 h1
  have c1 := (B1.cell (p := ⟨w.heap.size, 0, none⟩) hlt).trans hbx
  go_wp2_with fail
  refine (rSet_bool _ _ m sl true _ (hr.below B1) (hs.below B1) hse).mono ?_
  rintro e w2 ⟨rfl, h2⟩
  have B2 := btr B1 h2
  have c2 := (B2.cell (p := ⟨w.heap.size, 0, none⟩) hlt).trans hbx
  go_wp2_with fail
  refine (rSet_bool _ _ m ol true _ (hr.below B2) (ho.below B2) hoe).mono ?_
  rintro e w3 ⟨rfl, h3⟩
  have B3 := btr B2 h3
  have c3 := (B3.cell (p := ⟨w.heap.size, 0, none⟩) hlt).trans hbx
  go_wp2_with fail
  refine (rWord_bool _ _ m ul true _ (hr.below B3) hv (hu.below B3) hwu).mono ?_
  rintro e w4 ⟨rfl, h4⟩
  have B4 := btr B3 h4
  have c4 := (B4.cell (p := ⟨w.heap.size, 0, none⟩) hlt).trans hbx
  go_wp2_with fail
  refine (Image_as _ _ _ m sl ul I4 _ (hTX.on B4) (hr.below B4) (hs.below B4) (hu.below B4) hv hse hwu HI4).mono ?_
  rintro e w5 ⟨r4, rfl, i4, h5⟩
  obtain ⟨A4, q4, rfl, _⟩ := id i4
  have B5 := btr B4 h5
  have c5 := (B5.cell (p := ⟨w.heap.size, 0, none⟩) hlt).trans hbx
  go_wp2_with fail
  refine (Image_as _ _ _ m ol ul I5 _ (hTX.on B5) (hr.below B5) (ho.below B5) (hu.below B5) hv hoe hwu HI5).mono ?_
  rintro e w6 ⟨r5, rfl, i5, h6⟩
  obtain ⟨A5, q5, rfl, _⟩ := id i5
  have B6 := btr B5 h6
  have c6 := (B6.cell (p := ⟨w.heap.size, 0, none⟩) hlt).trans hbx
  have i46 := i4.below h6
  have hr6 := hr.below B6
  have hs6 := hs.below B6
  have ho6 := ho.below B6
  have hu6 := hu.below B6
  have hT6 := hTX.on B6
  have hX6 := btr hX B6
  have hlt6 : w.heap.size < w6.heap.size := World.block_lt_of_cell? _ _ c6
  clear hr hs ho hu h1 h2 h3 h4 h5 h6 B0 B1 B2 B3 B4 B5 c1 c2 c3 c4 c5 i4 hTX hbx hlt
  go_upto_region 6 with fail
  go_cut [14, 15] from 60 to 69 (fun r e wc => e = .int .i64 0 ∧ (∃ A c, r = .slice A L6.length c) ∧ Ints wc r L6 ∧ Below w6.heap.size w6 wc)
  case first =>
    go_region_with (first
      | (go_at_call 39; refine (join_as m.length _ _ sl ol J6 _ (by omega) (hs6.below (by first | exact Below.refl _ _ | assumption | exact Below.drew (by first | exact Below.refl _ _ | assumption))) (ho6.below (by first | exact Below.refl _ _ | assumption | exact Below.drew (by first | exact Below.refl _ _ | assumption))) HJ6).mono ?_; rintro e wJ ⟨rJ, rfl, hJ1, hA⟩; have hBJ : Below w6.heap.size w6 wJ := btr (by first | exact Below.refl _ _ | assumption | exact Below.drew (by first | exact Below.refl _ _ | assumption)) hA; have hcJ := (hBJ.cell (p := ⟨w.heap.size, 0, none⟩) hlt6).trans c6; obtain ⟨AJ, cJ, rfl, _⟩ := id hJ1)
      | (go_at_call 22; refine (Image_as _ _ _ m J6 ul L6 _ (hT6.on (by first | exact Below.refl _ _ | assumption | exact Below.drew (by first | exact Below.refl _ _ | assumption))) (hr6.below (by first | exact Below.refl _ _ | assumption | exact Below.drew (by first | exact Below.refl _ _ | assumption))) (by first | exact hJ1 | exact hJ1.below (below_dr _ _)) (hu6.below (by first | exact Below.refl _ _ | assumption | exact Below.drew (by first | exact Below.refl _ _ | assumption))) hv hJset hwu HJ).mono ?_; rintro e wI ⟨rI, rfl, hI, hA⟩; have hBI : Below w6.heap.size w6 wI := btr (by first | exact Below.refl _ _ | assumption | exact Below.drew (by first | exact Below.refl _ _ | assumption)) hA; have hcI := (hBI.cell (p := ⟨w.heap.size, 0, none⟩) hlt6).trans c6; obtain ⟨AI, cI, rfl, _⟩ := id hI))
    all_goals (go_wp2_with fail; go_meet; exact ⟨rfl, ⟨_, _, rfl⟩, hI, hBI⟩)
  case rest =>
    obtain ⟨rfl, ⟨A6, q6, rfl⟩, i6, C0⟩ := hcut
    have d0 := (C0.cell (p := ⟨w.heap.size, 0, none⟩) hlt6).trans c6
    go_wp2_with fail
    refine (join_as m.length _ _ I4 I5 L6 _ (by omega) (i46.below C0) (i5.below C0) HL6).mono ?_
    rintro e y1 ⟨rj, rfl, ij, f1⟩
    obtain ⟨Aj, qj, rfl, _⟩ := id ij
    have C1 := btr C0 f1
    have d1 := (C1.cell (p := ⟨w.heap.size, 0, none⟩) hlt6).trans c6
    go_wp2_with fail
    refine (rSame_eq _ _ L6 _ (i6.below f1) ij).mono ?_
    rintro e y2 ⟨rfl, f2⟩
    have C2 := btr C1 f2
    have d2 := (C2.cell (p := ⟨w.heap.size, 0, none⟩) hlt6).trans c6
    go_wp2_with fail
    refine (Preimage_as _ _ _ m sl ul P9 _ (hT6.on C2) (hr6.below C2) (hs6.below C2) (hu6.below C2) hv hse hwu HP9).mono ?_
    rintro e y3 ⟨r9, rfl, i9, f3⟩
    obtain ⟨A9, q9, rfl, _⟩ := id i9
    have C3 := btr C2 f3
    have d3 := (C3.cell (p := ⟨w.heap.size, 0, none⟩) hlt6).trans c6
    have hr3 := hr6.below C3
    have hs3 := hs6.below C3
    have hu3 := hu6.below C3
    have hT3 := hT6.on C3
    have hX3 := btr hX6 C3
    have hlt3 : w.heap.size < y3.heap.size := World.block_lt_of_cell? _ _ d3
    clear i46 i5 i6 ij hr6 hs6 ho6 hu6 hT6 hX6 f1 f2 f3 C0 C1 C2 C3 d0 d1 d2 hlt6 c6
    go_upto_region 10 with fail
    go_cut [13, 17] from 96 to 104 (fun e r wc => e = .int .i64 0 ∧ (∃ A c, r = .slice A L10.length c) ∧ Ints wc r L10 ∧ Below y3.heap.size y3 wc)
    case first =>
      go_region_with (first
        | (go_at_call 40; refine (rest_as m.length _ sl R6 _ (by omega) (hs3.below (by first | exact Below.refl _ _ | assumption | exact Below.drew (by first | exact Below.refl _ _ | assumption))) HR6).mono ?_; rintro e wJ ⟨rJ, rfl, hJ1, hA⟩; have hBJ : Below y3.heap.size y3 wJ := btr (by first | exact Below.refl _ _ | assumption | exact Below.drew (by first | exact Below.refl _ _ | assumption)) hA; have hcJ := (hBJ.cell (p := ⟨w.heap.size, 0, none⟩) hlt3).trans d3; obtain ⟨AJ, cJ, rfl, _⟩ := id hJ1)
        | (go_at_call 23; refine (Preimage_as _ _ _ m R6 ul L10 _ (hT3.on (by first | exact Below.refl _ _ | assumption | exact Below.drew (by first | exact Below.refl _ _ | assumption))) (hr3.below (by first | exact Below.refl _ _ | assumption | exact Below.drew (by first | exact Below.refl _ _ | assumption))) (by first | exact hJ1 | exact hJ1.below (below_dr _ _)) (hu3.below (by first | exact Below.refl _ _ | assumption | exact Below.drew (by first | exact Below.refl _ _ | assumption))) hv hRset hwu HR).mono ?_; rintro e wI ⟨rI, rfl, hI, hA⟩; have hBI : Below y3.heap.size y3 wI := btr (by first | exact Below.refl _ _ | assumption | exact Below.drew (by first | exact Below.refl _ _ | assumption)) hA; have hcI := (hBI.cell (p := ⟨w.heap.size, 0, none⟩) hlt3).trans d3; obtain ⟨AI, cI, rfl, _⟩ := id hI))
      all_goals (go_wp2_with fail; go_meet; exact ⟨rfl, ⟨_, _, rfl⟩, hI, hBI⟩)
    case rest =>
      obtain ⟨rfl, ⟨A10, q10, rfl⟩, i10, D0⟩ := hcut
      have e0 := (D0.cell (p := ⟨w.heap.size, 0, none⟩) hlt3).trans d3
      go_wp2_with fail
      refine (rest_as m.length _ P9 L10 _ (by omega) (i9.below D0) HL10).mono ?_
      rintro e z1 ⟨rj, rfl, ij, f1⟩
      obtain ⟨Aj, qj, rfl, _⟩ := id ij
      have D1 := btr D0 f1
      have e1 := (D1.cell (p := ⟨w.heap.size, 0, none⟩) hlt3).trans d3
      go_wp2_with fail
      refine (rSame_eq _ _ L10 _ (i10.below f1) ij).mono ?_
      rintro e z2 ⟨rfl, f2⟩
      have D2 := btr D1 f2
      have e2 := (D2.cell (p := ⟨w.heap.size, 0, none⟩) hlt3).trans d3
      have hr4 := hr3.below D2
      have hs4 := hs3.below D2
      have hu4 := hu3.below D2
      have hp4 := i9.below D2
      have hX4 := btr hX3 D2
      have hlt4 : w.heap.size < z2.heap.size := World.block_lt_of_cell? _ _ e2
      clear i10 ij hr3 hs3 hu3 i9 f1 f2 D0 D1 e0 e1 hX3 hlt3 D2
      go_wp2_with fail
      go_loopw [18] (fun i wr => ∃ k : Nat, k ≤ m.length ∧ i = .int .i64 k ∧ Below z2.heap.size z2 wr) (fun i _ => m.length - (intOf i).toNat)
      case atStart => exact ⟨0, Nat.zero_le _, rfl, Below.refl _ _⟩
      case round =>
        obtain ⟨k, hk, rfl, hB⟩ := hrel
        have g0 := (hB.cell (p := ⟨w.heap.size, 0, none⟩) hlt4).trans e2
        by_cases hkl : k < m.length
        · have hks : (k : Int) < m.length := by omega
          have hp := Hps.out k hkl
          go_wp2_with fail
          refine (Run_ok _ _ m k ul _ (hr4.below hB) (hu4.below hB) hv hkl hwu).mono ?_
          rintro e x1 ⟨rfl, k1⟩
          have hB1 := btr hB k1
          generalize runM m k ul = y at *
          cases hb : hasB sl (y : Int) with
          | true =>
            rw [hb] at hp
            go_wp2_with fail
            refine (hasB_bool _ P9 k true _ (hp4.below hB1) hp).mono ?_
            rintro e x2 ⟨rfl, rfl⟩
            go_wp2_with fail
            refine (hasB_bool _ sl y true _ (hs4.below hB1) hb).mono ?_
            rintro e x2 ⟨rfl, rfl⟩
            go_wp2
            go_roundw
            case rel => exact ⟨k + 1, by omega, by go_num, hB1⟩
            case measure => simp [intOf]; omega
          | false =>
            rw [hb] at hp
            go_wp2_with fail
            refine (hasB_bool _ P9 k false _ (hp4.below hB1) hp).mono ?_
            rintro e x2 ⟨rfl, rfl⟩
            go_wp2_with fail
            refine (hasB_bool _ sl y false _ (hs4.below hB1) hb).mono ?_
            rintro e x2 ⟨rfl, rfl⟩
            go_wp2
            go_roundw
            case rel => exact ⟨k + 1, by omega, by go_num, hB1⟩
            case measure => simp [intOf]; omega
        · have hks : ¬ ((k : Int) < m.length) := by omega
          go_wp2_with fail
          refine (awake_any _ (shaped_below hsh (btr hX4 hB)) (hT.on (btr hX4 hB))).mono ?_
          rintro e wz ⟨rfl, hz⟩
          go_wp2
          go_ret
          exact ⟨rfl, btr (btr hX4 hB) hz⟩

theorem unions_any (v s1 o1 u1 : Value) (m : List (List Int)) (sl ol ul : List Int) (w : World) (hsh : w.ShapedOpen Tryd.prog) (hT : Tab w) (h : Rows w v m) (hs1 : Ints w s1 sl) (ho1 : Ints w o1 ol) (hu1 : Ints w u1 ul) :
    Calls Tryd.prog 8 #[.agg #[v], s1, o1, u1] w fun e w' => e = .returned (.bool true) ∧ Below w.heap.size w w' := by
  cases hv : validM m with
  | false => exact unions_valid v s1 o1 u1 m sl ol ul w hsh hT h hs1 ho1 hu1 hv
  | true =>
    cases hse : isSetM m sl with
    | false => exact unions_set v s1 o1 u1 m sl ol ul w hsh hT h hs1 ho1 hu1 hv hse
    | true =>
      cases hoe : isSetM m ol with
      | false => exact unions_other v s1 o1 u1 m sl ol ul w hsh hT h hs1 ho1 hu1 hv hse hoe
      | true =>
        cases hwu : isWordM m ul with
        | false => exact unions_word v s1 o1 u1 m sl ol ul w hsh hT h hs1 ho1 hu1 hv hse hoe hwu
        | true => exact unions_ok v s1 o1 u1 m sl ol ul w hsh hT h hs1 ho1 hu1 hv hse hoe hwu
end Go.Proofs.YtibaihchnbbokaaDoor
