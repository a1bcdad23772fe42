/-
  The law of parts of words, where all arguments are in order.
-/
import Derived.Test.YtibaihchnbbokaaDoorL2
import Derived.Deep.CutRange
namespace Go.Proofs.YtibaihchnbbokaaDoor
open Go.RowKit Go.Shelf

set_option maxRecDepth 100000 in
set_option maxHeartbeats 2000000 in
theorem parts_ok (v s1 u1 u2 : Value) (m : List (List Int)) (sn : Nat) (sl ul vl : List Int) (w : World) (hsh : w.ShapedOpen Tryd.prog) (hT : Tab w) (h : Rows w v m) (hs1 : Ints w s1 sl) (hu1 : Ints w u1 ul) (hu2 : Ints w u2 vl)
    (hv : validM m = true) (hst : stateM m sn = true) (hse : isSetM m sl = true) (hwu : isWordM m ul = true) (hwv : isWordM m vl = true) (hn1 : ∀ A n c, u1 = .slice A n c → A = none → c = 0) (hn2 : ∀ A n c, u2 = .slice A n c → A = none → c = 0) (hsn : sn < m.length) (hsum : ul.length + vl.length ≤ 40000) :
    Calls Tryd.prog 7 #[.agg #[v], .int .i64 sn, s1, u1, u2] w fun e w' => e = .returned (.bool true) ∧ Below w.heap.size w w' := by
  obtain ⟨A, cap, rfl, _⟩ := id h
  obtain ⟨As, caps, rfl, hl0, _⟩ := id hs1
  obtain ⟨Au, capu, rfl, hl1, _⟩ := id hu1
  obtain ⟨Av, capv, rfl, hl2, _⟩ := id hu2
  unfold big at hl0 hl1 hl2
  have hX := bal (Below.refl _ w) (.cells #[.slice A m.length cap] 24)
  have hbx : (w.alloc (.cells #[.slice A m.length cap] 24)).cell? ⟨w.heap.size, 0, none⟩ = some (.slice A m.length cap) := by simp
  have Hx := hid hX
  have hd : decide ((40000 : Int) < (ul.length : Int) + vl.length) = false := by simp; omega
  have hw1 : IntKind.i64.wrap ((ul.length : Int) + vl.length) = (ul.length : Int) + vl.length := by rw [IntKind.wrap_i64]; omega
  replace hn1 := hn1 _ _ _ rfl
  replace hn2 := hn2 _ _ _ rfl
  go_enter Tryd.func7, Tryd.ntmps7
  go_wp2_with fail
  generalize hWX : w.alloc (.cells #[.slice A m.length cap] 24) = X at *
  clear hX hWX
  have hX := Hx.out
  have hlt : w.heap.size < X.heap.size := World.block_lt_of_cell? _ _ hbx
  have hr := h.below hX
  have hs := hs1.below hX
  have hu := hu1.below hX
  have hvv := hu2.below hX
  have B0 := Below.refl X.heap.size X
  refine (rValid_bool _ m true _ (hr.below B0) hv).mono ?_
  rintro e w1 ⟨rfl, h1⟩
  have B1 := btr B0 h1
  have c1 := (B1.cell (p := ⟨w.heap.size, 0, none⟩) hlt).trans hbx
  go_wp2_with fail
  refine (rState_bool _ m _ true _ (hr.below B1) hst).mono ?_
  rintro e w2 ⟨rfl, h2⟩
  have B2 := btr B1 h2
  have c2 := (B2.cell (p := ⟨w.heap.size, 0, none⟩) hlt).trans hbx
  go_wp2_with fail
  refine (rSet_bool _ _ m sl true _ (hr.below B2) (hs.below B2) hse).mono ?_
  rintro e w3 ⟨rfl, h3⟩
  have B3 := btr B2 h3
  have c3 := (B3.cell (p := ⟨w.heap.size, 0, none⟩) hlt).trans hbx
  go_wp2_with fail
  refine (rWord_bool _ _ m ul true _ (hr.below B3) hv (hu.below B3) hwu).mono ?_
  rintro e w4 ⟨rfl, h4⟩
  have B4 := btr B3 h4
  have c4 := (B4.cell (p := ⟨w.heap.size, 0, none⟩) hlt).trans hbx
  go_wp2_with fail
  refine (rWord_bool _ _ m vl true _ (hr.below B4) hv (hvv.below B4) hwv).mono ?_
  rintro e w5 ⟨rfl, h5⟩
  have B5 := btr B4 h5
  have c5 := (B5.cell (p := ⟨w.heap.size, 0, none⟩) hlt).trans hbx
  go_upto_region 3 with fail
  go_cut [11] from 57 to 61 (fun b wc => (∃ A c, b = .slice A (ul.length + vl.length) c) ∧ Ints wc b (ul ++ vl) ∧ Below X.heap.size X wc)
  case first =>
    have own0 := World.ownsRow_lit (base := w5.heap.size) (e := 3) (size := 1) w5 #[] 0 (Nat.le_refl _) (by unfold maxLen; omega) rfl
    have hu5 := (hu.below B5).alloc (.cells #[] 3)
    go_wp2_with (first
      | (at_builtin; refine wpList_append_list rfl _ _ rfl w5.heap.size 0 _ [] Au capu ul rfl own0 rfl hn1 hu5 (by simp) (by omega) ?_; intro v1 wa ho1 hb1)
      | (at_builtin; refine wpList_append_list rfl _ _ rfl w5.heap.size _ _ _ Av capv vl rfl ho1 rfl hn2 ((hvv.below B5).below ((bal (Below.refl _ w5) (.cells #[] 3)).trans hb1)) (by have := hb1.size; simp at this; omega) (by omega) ?_; intro v2 wb ho2 hb2))
    go_meet
    refine ⟨?_, Ints.of_own (n₀ := w5.heap.size) (e := 3) (l := ul ++ vl) (by simpa [List.map_append] using ho2) (by unfold big; simp; omega), B5.trans ((bal (Below.refl _ w5) (.cells #[] 3)).trans (hb1.trans hb2) |>.mono B5.size)⟩
    have hI := Ints.of_own (n₀ := w5.heap.size) (e := 3) (l := ul ++ vl) (W := wb) (v := v2) (by simpa [List.map_append] using ho2) (by unfold big; simp; omega)
    obtain ⟨A', c', hA', _⟩ := hI
    exact ⟨A', c', by rw [hA', List.length_append]⟩
  case rest =>
    obtain ⟨⟨Ab, cb, rfl⟩, hbY, BX⟩ := hcut
    have hY := btr hX BX
    have hbxY := (BX.cell (p := ⟨w.heap.size, 0, none⟩) hlt).trans hbx
    have hltY : w.heap.size < wc.heap.size := World.block_lt_of_cell? _ _ hbxY
    have hrY := hr.below BX
    have hsY := hs.below BX
    have huY := hu.below BX
    have hvY := hvv.below BX
    have hTY := hT.on hY
    have hsum' : (ul ++ vl).length = ul.length + vl.length := List.length_append
    have hwb := isWordM_append hwu hwv hsum
    have hq : runM m sn ul < m.length := runM_lt hv ul sn hsn (by simp only [isWordM, Bool.and_eq_true] at hwu; exact hwu.2)
    have hse1 := imageM_set hv hse hwu
    have hse2 := preimageM_set (u := vl) hv hse
    have C0 := Below.refl wc.heap.size wc
    clear hr hs hu hvv hbx
    go_wp2_with fail
    refine (Run_ok _ _ m sn ul _ (hrY.below C0) (huY.below C0) hv hsn hwu).mono ?_
    rintro e y1 ⟨rfl, f1⟩
    have C1 := btr C0 f1
    have d1 := (C1.cell (p := ⟨w.heap.size, 0, none⟩) hltY).trans hbxY
    go_wp2_with fail
    refine (Run_ok _ _ m (runM m sn ul) vl _ (hrY.below C1) (hvY.below C1) hv hq hwv).mono ?_
    rintro e y2 ⟨rfl, f2⟩
    have C2 := btr C1 f2
    have d2 := (C2.cell (p := ⟨w.heap.size, 0, none⟩) hltY).trans hbxY
    have hx := Run_ok _ _ m sn (ul ++ vl) _ (hrY.below C2) (hbY.below C2) hv hsn hwb
    rw [runM_append] at hx
    generalize runM m (runM m sn ul) vl = yq at *
    go_wp2_with fail
    refine (hx).mono ?_
    rintro e y3 ⟨rfl, f3⟩
    have C3 := btr C2 f3
    have d3 := (C3.cell (p := ⟨w.heap.size, 0, none⟩) hltY).trans hbxY
    clear hx
    go_wp2_with fail
    refine (Image_ok _ _ _ m sl ul _ (hTY.on C3) (hrY.below C3) (hsY.below C3) (huY.below C3) hv hse hwu).mono ?_
    rintro e y4 ⟨r3, rfl, i3, f4⟩
    obtain ⟨A3, q3, rfl, _⟩ := id i3
    have C4 := btr C3 f4
    have d4 := (C4.cell (p := ⟨w.heap.size, 0, none⟩) hltY).trans hbxY
    go_wp2_with fail
    refine (Image_ok _ _ _ m (imageM m sl ul) vl _ (hTY.on C4) (hrY.below C4) i3 (hvY.below C4) hv hse1 hwv).mono ?_
    rintro e y5 ⟨r4, rfl, i4, f5⟩
    obtain ⟨A4, q4, rfl, _⟩ := id i4
    have C5 := btr C4 f5
    have d5 := (C5.cell (p := ⟨w.heap.size, 0, none⟩) hltY).trans hbxY
    have hx := Image_ok _ _ _ m sl (ul ++ vl) _ (hTY.on C5) (hrY.below C5) (hsY.below C5) (hbY.below C5) hv hse hwb
    rw [← imageM_append hv hse hwu] at hx
    go_wp2_with fail
    refine (hx).mono ?_
    rintro e y6 ⟨r5, rfl, i5, f6⟩
    obtain ⟨A5, q5, rfl, _⟩ := id i5
    have C6 := btr C5 f6
    have d6 := (C6.cell (p := ⟨w.heap.size, 0, none⟩) hltY).trans hbxY
    clear hx
    go_wp2_with fail
    refine (rSame_eq _ _ _ _ (i4.below f6) i5).mono ?_
    rintro e y7 ⟨rfl, f7⟩
    have C7 := btr C6 f7
    have d7 := (C7.cell (p := ⟨w.heap.size, 0, none⟩) hltY).trans hbxY
    go_wp2_with fail
    refine (Preimage_ok _ _ _ m sl vl _ (hTY.on C7) (hrY.below C7) (hsY.below C7) (hvY.below C7) hv hse hwv).mono ?_
    rintro e y8 ⟨r7, rfl, i7, f8⟩
    obtain ⟨A7, q7, rfl, _⟩ := id i7
    have C8 := btr C7 f8
    have d8 := (C8.cell (p := ⟨w.heap.size, 0, none⟩) hltY).trans hbxY
    go_wp2_with fail
    refine (Preimage_ok _ _ _ m (preimageM m sl vl) ul _ (hTY.on C8) (hrY.below C8) i7 (huY.below C8) hv hse2 hwu).mono ?_
    rintro e y9 ⟨r8, rfl, i8, f9⟩
    obtain ⟨A8, q8, rfl, _⟩ := id i8
    have C9 := btr C8 f9
    have d9 := (C9.cell (p := ⟨w.heap.size, 0, none⟩) hltY).trans hbxY
    have hx := Preimage_ok _ _ _ m sl (ul ++ vl) _ (hTY.on C9) (hrY.below C9) (hsY.below C9) (hbY.below C9) hv hse hwb
    rw [← preimageM_append hv hse] at hx
    go_wp2_with fail
    refine (hx).mono ?_
    rintro e y10 ⟨r9, rfl, i9, f10⟩
    obtain ⟨A9, q9, rfl, _⟩ := id i9
    have C10 := btr C9 f10
    have d10 := (C10.cell (p := ⟨w.heap.size, 0, none⟩) hltY).trans hbxY
    clear hx
    go_wp2_with fail
    refine (rSame_eq _ _ _ _ (i8.below f10) i9).mono ?_
    rintro e y11 ⟨rfl, f11⟩
    have C11 := btr C10 f11
    have d11 := (C11.cell (p := ⟨w.heap.size, 0, none⟩) hltY).trans hbxY
    go_wp2_with fail
    refine (awake_any _ (shaped_below hsh (btr hY C11)) (hT.on (btr hY C11))).mono ?_
    rintro e wz ⟨rfl, hz⟩
    go_wp2
    go_ret
    exact ⟨rfl, btr (btr hY C11) hz⟩

theorem parts_any (v s1 u1 u2 : Value) (m : List (List Int)) (s : Int) (sl ul vl : List Int) (w : World) (hsh : w.ShapedOpen Tryd.prog) (hT : Tab w) (h : Rows w v m) (hs1 : Ints w s1 sl) (hu1 : Ints w u1 ul) (hu2 : Ints w u2 vl)
    (hn1 : ∀ A n c, u1 = .slice A n c → A = none → c = 0) (hn2 : ∀ A n c, u2 = .slice A n c → A = none → c = 0) :
    Calls Tryd.prog 7 #[.agg #[v], .int .i64 s, s1, u1, u2] w fun e w' => e = .returned (.bool true) ∧ Below w.heap.size w w' := by
  cases hv : validM m with
  | false => exact parts_valid v s1 u1 u2 m s sl ul vl w hsh hT h hs1 hu1 hu2 hv
  | true =>
    cases hst : stateM m s with
    | false => exact parts_state v s1 u1 u2 m s sl ul vl w hsh hT h hs1 hu1 hu2 hv hst
    | true =>
      cases hse : isSetM m sl with
      | false => exact parts_set v s1 u1 u2 m s sl ul vl w hsh hT h hs1 hu1 hu2 hv hst hse
      | true =>
        cases hwu : isWordM m ul with
        | false => exact parts_u v s1 u1 u2 m s sl ul vl w hsh hT h hs1 hu1 hu2 hv hst hse hwu
        | true =>
          cases hwv : isWordM m vl with
          | false => exact parts_v v s1 u1 u2 m s sl ul vl w hsh hT h hs1 hu1 hu2 hv hst hse hwu hwv
          | true =>
            by_cases hsum : ul.length + vl.length ≤ 40000
            · have h2 := hst
              rw [stateM, inB_iff] at h2
              obtain ⟨sn, rfl⟩ := Int.eq_ofNat_of_zero_le h2.1
              exact parts_ok v s1 u1 u2 m sn sl ul vl w hsh hT h hs1 hu1 hu2 hv hst hse hwu hwv hn1 hn2 (by omega) hsum
            · exact parts_long v s1 u1 u2 m s sl ul vl w hsh hT h hs1 hu1 hu2 hv hst hse hwu hwv (by omega)
end Go.Proofs.YtibaihchnbbokaaDoor
