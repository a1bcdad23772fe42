/-
  Texts that the proof of the law stands on: K8.
-/
import Derived.Test.YtibaihchnbbokaaDoorNbB
namespace Go.Proofs.YtibaihchnbbokaaDoor
open Go.RowKit Go.Shelf
set_option maxRecDepth 100000 in
set_option maxHeartbeats 1000000 in
theorem ends_awake1 (v : Value) (m : List (List Int)) (s : Int) (w : World) (hT : Tab w) (h : Rows w v m) (hv : validM m = false) :
    Calls Tryd.prog 13 #[.agg #[v], .int .i64 s] w fun e w' => e = .returned (.bool true) ∧ Below w.heap.size w w' := by
  obtain ⟨A, cap, rfl, hml, -⟩ := id h
  have hX := bal (Below.refl _ w) (.cells #[.slice A m.length cap] 24)
  have hr := h.below hX
  have hTX := hT.on hX
  go_enter Tryd.func13, Tryd.ntmps13
  go_wp2_with fail
  refine (rValid_bool _ m false _ hr hv).mono ?_
  rintro e w1 ⟨rfl, h1⟩
  have hT1 := hTX.on h1
  go_wp2_with fail
  refine (awake2_any _ hT1).mono ?_
  rintro e w2 ⟨rfl, h2⟩
  go_wp2
  go_ret
  exact ⟨rfl, btr (btr hX h1) h2⟩
set_option maxRecDepth 100000 in
set_option maxHeartbeats 1000000 in
theorem ends_awake2 (v : Value) (m : List (List Int)) (s : Int) (w : World) (hT : Tab w) (h : Rows w v m) (hv : validM m = true) (hs : stateM m s = false) :
    Calls Tryd.prog 13 #[.agg #[v], .int .i64 s] w fun e w' => e = .returned (.bool true) ∧ Below w.heap.size w w' := by
  obtain ⟨A, cap, rfl, hml, -⟩ := id h
  have hX := bal (Below.refl _ w) (.cells #[.slice A m.length cap] 24)
  have hbx := (Boxed.new w 24 (.slice A m.length cap)).cell
  have hr := h.below hX
  have hTX := hT.on hX
  go_enter Tryd.func13, Tryd.ntmps13
  go_wp2_with fail
  refine (rValid_bool _ m true _ hr hv).mono ?_
  rintro e w1 ⟨rfl, h1⟩
  have c1 := (h1.cell (p := ⟨w.heap.size, 0, none⟩) (World.block_lt_of_cell? _ _ hbx)).trans hbx
  go_wp2_with fail
  refine (rState_bool _ m s false _ (hr.below h1) hs).mono ?_
  rintro e w2 ⟨rfl, h2⟩
  have B2 := btr h1 h2
  have hT1 := hTX.on B2
  go_wp2_with fail
  refine (awake2_any _ hT1).mono ?_
  rintro e w3 ⟨rfl, h3⟩
  go_wp2
  go_ret
  exact ⟨rfl, btr (btr hX B2) h3⟩
theorem getR_of {w : World} {A : Option Addr} {n c : Nat} {l : List (List Int)} (h : Rows w (.slice A n c) l) {i : Nat} (hi : i < l.length) : ∃ b o A' c', A = some ⟨b, o, none⟩ ∧ w.cell? ⟨b, o + i, none⟩ = some (.slice A' (l.getD i []).length c') ∧ Ints w (.slice A' (l.getD i []).length c') (l.getD i []) := by
  obtain ⟨A', c', hA, _, hc⟩ := h
  cases hA
  obtain ⟨b, o, r, hA, h1, h2⟩ := hc i hi
  obtain ⟨A2, c2, rfl, _⟩ := id h2
  exact ⟨b, o, A2, c2, hA, h1, h2⟩
theorem row_below {m : List (List Int)} (hv : validM m = true) {t : Nat} (ht : t < m.length) : (m.getD t []).all (inB 0 ((m.length : Int) - 1)) = true := by
  obtain ⟨h1, h2⟩ := (valid_parts hv).2.2.2.2 t ht
  rw [List.all_eq_true]
  intro x hx
  obtain ⟨j, hj, rfl⟩ := List.mem_iff_getElem.1 hx
  have := h2 j (by omega)
  rw [List.getD_eq_getElem?_getD, List.getElem?_eq_getElem hj, Option.getD_some] at this
  exact inB_true ⟨this.1, by omega⟩
theorem state_of {m : List (List Int)} {t : Nat} (h : t < m.length) : stateM m (t : Int) = true := by
  unfold stateM inB
  simp; omega
set_option maxRecDepth 100000 in
set_option maxHeartbeats 4000000 in
theorem ends_ok (v : Value) (m : List (List Int)) (s : Nat) (w : World) (hT : Tab w) (h : Rows w v m) (hv : validM m = true) (hs : s < m.length) (hst : stateM m s = true) :
    Calls Tryd.prog 13 #[.agg #[v], .int .i64 s] w fun e w' => e = .returned (.bool true) ∧ Below w.heap.size w w' := by
  obtain ⟨p1, p2, p3, p4, -⟩ := valid_parts hv
  obtain ⟨A, cap, rfl, hml, -⟩ := id h
  have hX := bal (Below.refl _ w) (.cells #[.slice A m.length cap] 24)
  have hbx := (Boxed.new w 24 (.slice A m.length cap)).cell
  have hr := h.below hX
  have hTX := hT.on hX
  have hrows := hid (fun i hi => sinks_rows m (i := i) hi)
  have hfall := found_all hv hs
  have hsome := sinks_some hv
  have hslen := sinks_len m
  obtain ⟨SL, HSL⟩ : ∃ L, Hid (sinksTo m m.length = L) := ⟨_, hid rfl⟩
  rw [HSL.out] at hrows hfall hsome hslen
  have Hfall := hid hfall
  clear hfall
  go_enter Tryd.func13, Tryd.ntmps13
  go_wp2_with fail
  refine (rValid_bool _ m true _ hr hv).mono ?_
  rintro e w1 ⟨rfl, h1⟩
  have c1 := (h1.cell (p := ⟨w.heap.size, 0, none⟩) (World.block_lt_of_cell? _ _ hbx)).trans hbx
  go_wp2_with fail
  refine (rState_bool _ m s true _ (hr.below h1) hst).mono ?_
  rintro e w2 ⟨rfl, h2⟩
  have B2 := btr h1 h2
  have c2 := (h2.cell (p := ⟨w.heap.size, 0, none⟩) (World.block_lt_of_cell? _ _ c1)).trans c1
  go_wp2_with fail
  refine (Sinks_as _ m SL _ (hTX.on B2) (hr.below B2) hv HSL).mono ?_
  rintro e w3 ⟨AS, cS, rfl, hS, h3⟩
  have B3 := btr (btr hX B2) h3
  have c3 := (h3.cell (p := ⟨w.heap.size, 0, none⟩) (World.block_lt_of_cell? _ _ c2)).trans c2
  have hr3 := h.below B3
  have hT3 := hT.on B3
  have hlt3 := World.block_lt_of_cell? _ _ c3
  have hsl0 : ((SL.length : Int) == 0) = false := by rw [beq_eq_false_iff_ne]; omega
  clear c1 c2 h1 h2 h3 hbx hr hTX B2
  go_wp2_with fail
  go_loopw [7, 8] (fun fv iv wr => ∃ i : Nat, i ≤ SL.length ∧ iv = .int .i64 i ∧ fv = .bool (foundTo m s SL i) ∧ Below w3.heap.size w3 wr) (fun _ i _ => SL.length - (intOf i).toNat)
  case atStart => exact ⟨0, Nat.zero_le _, rfl, rfl, Below.refl _ _⟩
  case round =>
    obtain ⟨i, hi, rfl, rfl, hB⟩ := hrel
    by_cases hlt : i < SL.length
    · have his : (i : Int) < SL.length := by omega
      obtain ⟨bS, oS, AL, cL, hAS, cellL, hL⟩ := getR_of hS hlt
      subst hAS
      have hrow := hid (hrows.out i hlt)
      have hll := sink_len hrow.out
      have hsucc := hid (show foundTo m s SL (i + 1) = (foundTo m s SL i || foundIn m s (SL.getD i [])) from any_take_succ _ _ _ _ hlt)
      have hIn := hid (show ∀ L, foundIn m s L = L.any fun t => reachB m s t.toNat from fun _ => rfl)
      generalize SL.getD i [] = L at *
      generalize foundTo m s SL i = f0 at *
      obtain ⟨wo, rfl⟩ : ∃ wo : World, wo = wr := ⟨_, rfl⟩
      go_wp2_with fail
      go_loopw [7, 9] (fun fv kv wr => ∃ k : Nat, k ≤ L.length ∧ kv = .int .i64 k ∧ fv = .bool (f0 || (L.take k).any fun t => reachB m s t.toNat) ∧ Below w3.heap.size w3 wr) (fun _ k _ => L.length - (intOf k).toNat)
      case atStart => exact ⟨0, Nat.zero_le _, rfl, by simp, hB⟩
      case round =>
        clear hB
        obtain ⟨k, hk, rfl, rfl, hB⟩ := hrel
        have cellL' := (hB.cell (p := ⟨bS, oS + i, none⟩) (World.block_lt_of_cell? _ _ cellL)).trans cellL
        have hLr := hL.below hB
        have cr := (hB.cell (p := ⟨w.heap.size, 0, none⟩) (World.block_lt_of_cell? _ _ c3)).trans c3
        have hrr := hr3.below hB
        have hTr := hT3.on hB
        obtain ⟨wi, rfl⟩ : ∃ wi : World, wi = wr := ⟨_, rfl⟩
        by_cases hkl : k < L.length
        · have hkls : (k : Int) < L.length := by omega
          obtain ⟨t, htk, htn, hlet, hhas⟩ := sink_elem hv hrow.out hkl
          obtain ⟨bL, oL, hAL, cellt⟩ := getI_of hLr hkl
          subst hAL
          rw [htk] at cellt
          have hts : (t : Int) < m.length := by omega
          obtain ⟨bA, oA, AR, cR, hAA, cellR, hR⟩ := getR_of hrr htn
          subst hAA
          have hrl := ((valid_parts hv).2.2.2.2 t htn).1
          have hrb := row_below hv htn
          have hnx := hid (fun x (hx : x < letters m) => nx_ok hv htn (x := (x : Int)) (by omega) (by omega))
          have hksucc := hid (show ((L.take (k + 1)).any fun t => reachB m s t.toNat) = ((L.take k).any (fun t => reachB m s t.toNat) || reachB m s t) by
            rw [any_take_succ _ L 0 k hkl, htk, Int.toNat_natCast])
          generalize hML : m.getD t [] = MR at *
          rw [hrl] at cellR hR
          have Hlet := hid hlet
          have Hhas := hid hhas
          have Hnx := hid hnx
          have HMR := hid hML
          clear hlet hhas hnx htk hML
          generalize (L.take k).any (fun t => reachB m s t.toNat) = f1 at *
          go_wp2_with fail
          have la := later_cell cr
          have lr := later_cell cellR
          refine wp_region_later (by kernel_rfl) (by kernel_rfl) ?_
          repeat (go_big_quiet_step ((first
            | (go_at_call 18; exact later_call (fun w' hb => rState_bool _ m t true _ (hrr.below hb) (state_of htn)))
            | (go_at_call 42; exact later_call (fun w' hb => (rBelow_bool _ MR m.length true _ (hR.below hb) (by omega) hrb).mono fun e w1 he => ⟨he.1, by rw [← he.2]; exact Below.refl _ _⟩)))))
          refine wpQuiet_nil ?_
          intro z
          have hBz := btr hB z.below
          have crz := la z
          have hrz := hrr.below z.below
          have hTz := hTr.on z.below
          clear la lr cr hrr hTr
          go_wp2_with fail
          go_loopw [11] (fun xv wr => ∃ x : Nat, x ≤ letters m ∧ xv = .int .i64 x ∧ Below wi.heap.size wi wr) (fun x _ => letters m - (intOf x).toNat)
          case atStart => exact ⟨0, Nat.zero_le _, rfl, z.below⟩
          case round =>
            clear hBz crz hrz hTz
            obtain ⟨x, hx, rfl, hBx⟩ := hrel
            have hB3x := btr hB hBx
            have cr := (hB3x.cell (p := ⟨w.heap.size, 0, none⟩) (World.block_lt_of_cell? _ _ c3)).trans c3
            have hrr := hr3.below hB3x
            have hTr := hT3.on hB3x
            go_wp2_with fail
            refine (rLetters_any _ m _ hrr hv).mono ?_
            rintro e y1 ⟨rfl, hy1⟩
            have hBy := btr hBx hy1
            have hB3y := btr hB3x hy1
            have cry := (hy1.cell (p := ⟨w.heap.size, 0, none⟩) (World.block_lt_of_cell? _ _ cr)).trans cr
            have hrry := hrr.below hy1
            have hTy := hTr.on hy1
            clear cr hrr hTr
            have cellLy := (hBy.cell (p := ⟨bS, oS + i, none⟩) (World.block_lt_of_cell? _ _ cellL')).trans cellL'
            have hLy := hLr.below hBy
            by_cases hxl : x < letters m
            · have hxs : (x : Int) < letters m := by omega
              obtain ⟨hn1, hn⟩ := Hnx.out x hxl
              rw [Int.toNat_natCast] at hn
              have cellRy := (hBy.cell (p := ⟨bA, oA + t, none⟩) (World.block_lt_of_cell? _ _ cellR)).trans cellR
              have hRy := hR.below hBy
              have hMl : x < MR.length := by omega
              obtain ⟨bR, oR, hAR, cellx⟩ := getI_of hRy hMl
              subst hAR
              rw [hn] at cellx
              have hh := Hlet.out x hxl
              generalize nx m t (x : Int) = q at *
              have la := later_cell cry
              have lb := later_cell cellLy
              have lc := later_cell cellRy
              have ld := later_cell cellx
              clear hRy hn
              go_wp2_with fail
              refine wp_region_later (by kernel_rfl) (by kernel_rfl) ?_
              repeat (go_big_quiet_step ((go_at_call 41; exact later_call (fun w' hb => (hasB_bool _ L q true _ (hLy.below hb) hh).mono fun e w1 he => ⟨he.1, by rw [← he.2]; exact Below.refl _ _⟩))))
              refine wpQuiet_nil ?_
              intro z2
              have hBz := btr hBy z2.below
              go_wp2
              go_roundw
              case rel => exact ⟨x + 1, by omega, by go_num, hBz⟩
              case measure => simp [intOf]; omega
            · obtain rfl : x = letters m := by omega
              have hxs : ¬ ((letters m : Nat) : Int) < letters m := by omega
              clear hBx hy1 hB3x hB
              have hhs := Hhas.out s hs
              generalize hb : reachB m t s = b2 at *
              have hcode := hid (fun w' h => Path_code (.slice (some ⟨bA, oA, none⟩) m.length cap) m t s b2 w' h hv htn hs hb)
              cases hrb : reachB m s t with
              | true =>
                rw [hrb] at hksucc
                go_wp2_with fail
                refine (Path_good _ m s t _ hrry hv hs htn hrb).mono ?_
                rintro e y2 ⟨A2, c2, W2, rfl, hW2, hw2, hrun, hy2⟩
                have cr2 := (hy2.cell (p := ⟨w.heap.size, 0, none⟩) (World.block_lt_of_cell? _ _ cry)).trans cry
                have hrr2 := hrry.below hy2
                clear cry
                go_wp2_with fail
                have hR0 := Run_ok _ _ m s W2 _ hrr2 hW2 hv hs hw2
                rw [hrun] at hR0
                refine hR0.mono ?_
                rintro e y3 ⟨rfl, hy3⟩
                have cr3 := (hy3.cell (p := ⟨w.heap.size, 0, none⟩) (World.block_lt_of_cell? _ _ cr2)).trans cr2
                have hrr3 := hrr2.below hy3
                have hB3 := btr hB3y (btr hy2 hy3)
                have hLy3 := hLy.below (btr hy2 hy3)
                have cellLy3 := ((btr hy2 hy3).cell (p := ⟨bS, oS + i, none⟩) (World.block_lt_of_cell? _ _ cellLy)).trans cellLy
                clear cr2 hR0 hrun hW2 cellLy hy2 hy3
                cases hf : (f0 || f1) with
                | true =>
                  cases b2 with
                  | true =>
                    have hpe : pathE true = 0 := rfl
                    rw [hpe] at hcode
                    go_wp2_with fail
                    refine (hcode.out _ hrr3).mono ?_
                    rintro e y4 ⟨r4, rfl, hy4⟩
                    have cellLy4 := (hy4.cell (p := ⟨bS, oS + i, none⟩) (World.block_lt_of_cell? _ _ cellLy3)).trans cellLy3
                    clear cellLy3
                    go_wp2_with fail
                    refine (hasB_bool _ L s true _ (hLy3.below hy4) hhs).mono ?_
                    rintro e y5 ⟨rfl, rfl⟩
                    go_wp2
                    go_roundw
                    case rel => exact ⟨k + 1, by omega, by go_num, by rw [hksucc.out]; first | (rw [← Bool.or_assoc, hf]; rfl) | (rw [← Bool.or_assoc, hf]), btr hB3 hy4⟩
                    case measure => simp [intOf]; omega
                  | false =>
                    have hpe : pathE false = 4 := rfl
                    rw [hpe] at hcode
                    go_wp2_with fail
                    refine (hcode.out _ hrr3).mono ?_
                    rintro e y4 ⟨r4, rfl, hy4⟩
                    have cellLy4 := (hy4.cell (p := ⟨bS, oS + i, none⟩) (World.block_lt_of_cell? _ _ cellLy3)).trans cellLy3
                    clear cellLy3
                    go_wp2_with fail
                    refine (hasB_bool _ L s false _ (hLy3.below hy4) hhs).mono ?_
                    rintro e y5 ⟨rfl, rfl⟩
                    go_wp2
                    go_roundw
                    case rel => exact ⟨k + 1, by omega, by go_num, by rw [hksucc.out]; first | (rw [← Bool.or_assoc, hf]; rfl) | (rw [← Bool.or_assoc, hf]), btr hB3 hy4⟩
                    case measure => simp [intOf]; omega
                | false =>
                  cases b2 with
                  | true =>
                    have hpe : pathE true = 0 := rfl
                    rw [hpe] at hcode
                    go_wp2_with fail
                    refine (hcode.out _ hrr3).mono ?_
                    rintro e y4 ⟨r4, rfl, hy4⟩
                    have cellLy4 := (hy4.cell (p := ⟨bS, oS + i, none⟩) (World.block_lt_of_cell? _ _ cellLy3)).trans cellLy3
                    clear cellLy3
                    go_wp2_with fail
                    refine (hasB_bool _ L s true _ (hLy3.below hy4) hhs).mono ?_
                    rintro e y5 ⟨rfl, rfl⟩
                    go_wp2
                    go_roundw
                    case rel => exact ⟨k + 1, by omega, by go_num, by rw [hksucc.out]; first | (rw [← Bool.or_assoc, hf]; rfl) | (rw [← Bool.or_assoc, hf]), btr hB3 hy4⟩
                    case measure => simp [intOf]; omega
                  | false =>
                    have hpe : pathE false = 4 := rfl
                    rw [hpe] at hcode
                    go_wp2_with fail
                    refine (hcode.out _ hrr3).mono ?_
                    rintro e y4 ⟨r4, rfl, hy4⟩
                    have cellLy4 := (hy4.cell (p := ⟨bS, oS + i, none⟩) (World.block_lt_of_cell? _ _ cellLy3)).trans cellLy3
                    clear cellLy3
                    go_wp2_with fail
                    refine (hasB_bool _ L s false _ (hLy3.below hy4) hhs).mono ?_
                    rintro e y5 ⟨rfl, rfl⟩
                    go_wp2
                    go_roundw
                    case rel => exact ⟨k + 1, by omega, by go_num, by rw [hksucc.out]; first | (rw [← Bool.or_assoc, hf]; rfl) | (rw [← Bool.or_assoc, hf]), btr hB3 hy4⟩
                    case measure => simp [intOf]; omega
              | false =>
                rw [hrb] at hksucc
                go_wp2_with fail
                refine (Path_bad _ m s t _ hrry hv hs htn hrb).mono ?_
                rintro e y2 ⟨rfl, hy2⟩
                have cr2 := (hy2.cell (p := ⟨w.heap.size, 0, none⟩) (World.block_lt_of_cell? _ _ cry)).trans cry
                have hrr2 := hrry.below hy2
                have hB3 := btr hB3y hy2
                have hLy3 := hLy.below hy2
                have cellLy3 := (hy2.cell (p := ⟨bS, oS + i, none⟩) (World.block_lt_of_cell? _ _ cellLy)).trans cellLy
                clear cry cellLy hy2
                cases hf : (f0 || f1) with
                | true =>
                  cases b2 with
                  | true =>
                    have hpe : pathE true = 0 := rfl
                    rw [hpe] at hcode
                    go_wp2_with fail
                    refine (hcode.out _ hrr2).mono ?_
                    rintro e y4 ⟨r4, rfl, hy4⟩
                    have cellLy4 := (hy4.cell (p := ⟨bS, oS + i, none⟩) (World.block_lt_of_cell? _ _ cellLy3)).trans cellLy3
                    clear cellLy3
                    go_wp2_with fail
                    refine (hasB_bool _ L s true _ (hLy3.below hy4) hhs).mono ?_
                    rintro e y5 ⟨rfl, rfl⟩
                    go_wp2
                    go_roundw
                    case rel => exact ⟨k + 1, by omega, by go_num, by rw [hksucc.out]; first | (rw [← Bool.or_assoc, hf]; rfl) | (rw [← Bool.or_assoc, hf]), btr hB3 hy4⟩
                    case measure => simp [intOf]; omega
                  | false =>
                    have hpe : pathE false = 4 := rfl
                    rw [hpe] at hcode
                    go_wp2_with fail
                    refine (hcode.out _ hrr2).mono ?_
                    rintro e y4 ⟨r4, rfl, hy4⟩
                    have cellLy4 := (hy4.cell (p := ⟨bS, oS + i, none⟩) (World.block_lt_of_cell? _ _ cellLy3)).trans cellLy3
                    clear cellLy3
                    go_wp2_with fail
                    refine (hasB_bool _ L s false _ (hLy3.below hy4) hhs).mono ?_
                    rintro e y5 ⟨rfl, rfl⟩
                    go_wp2
                    go_roundw
                    case rel => exact ⟨k + 1, by omega, by go_num, by rw [hksucc.out]; first | (rw [← Bool.or_assoc, hf]; rfl) | (rw [← Bool.or_assoc, hf]), btr hB3 hy4⟩
                    case measure => simp [intOf]; omega
                | false =>
                  cases b2 with
                  | true =>
                    have hpe : pathE true = 0 := rfl
                    rw [hpe] at hcode
                    go_wp2_with fail
                    refine (hcode.out _ hrr2).mono ?_
                    rintro e y4 ⟨r4, rfl, hy4⟩
                    have cellLy4 := (hy4.cell (p := ⟨bS, oS + i, none⟩) (World.block_lt_of_cell? _ _ cellLy3)).trans cellLy3
                    clear cellLy3
                    go_wp2_with fail
                    refine (hasB_bool _ L s true _ (hLy3.below hy4) hhs).mono ?_
                    rintro e y5 ⟨rfl, rfl⟩
                    go_wp2
                    go_roundw
                    case rel => exact ⟨k + 1, by omega, by go_num, by rw [hksucc.out]; first | (rw [← Bool.or_assoc, hf]; rfl) | (rw [← Bool.or_assoc, hf]), btr hB3 hy4⟩
                    case measure => simp [intOf]; omega
                  | false =>
                    have hpe : pathE false = 4 := rfl
                    rw [hpe] at hcode
                    go_wp2_with fail
                    refine (hcode.out _ hrr2).mono ?_
                    rintro e y4 ⟨r4, rfl, hy4⟩
                    have cellLy4 := (hy4.cell (p := ⟨bS, oS + i, none⟩) (World.block_lt_of_cell? _ _ cellLy3)).trans cellLy3
                    clear cellLy3
                    go_wp2_with fail
                    refine (hasB_bool _ L s false _ (hLy3.below hy4) hhs).mono ?_
                    rintro e y5 ⟨rfl, rfl⟩
                    go_wp2
                    go_roundw
                    case rel => exact ⟨k + 1, by omega, by go_num, by rw [hksucc.out]; first | (rw [← Bool.or_assoc, hf]; rfl) | (rw [← Bool.or_assoc, hf]), btr hB3 hy4⟩
                    case measure => simp [intOf]; omega
        · obtain rfl : k = L.length := by omega
          have hkls : ¬ ((L.length : Nat) : Int) < L.length := by omega
          have hfin := hid (show (f0 || (L.take L.length).any fun t => reachB m s t.toNat) = foundTo m s SL (i + 1) by rw [hsucc.out, List.take_length, hIn.out])
          generalize (f0 || (L.take L.length).any fun t => reachB m s t.toNat) = f2 at *
          go_wp2
          go_roundw
          case rel => exact ⟨i + 1, by omega, by go_num, by rw [hfin.out], hB⟩
          case measure => simp [intOf]; omega
    · obtain rfl : i = SL.length := by omega
      have his : ¬ ((SL.length : Nat) : Int) < SL.length := by omega
      have hTr := hT3.on hB
      have hfall := Hfall.out
      rw [hfall]
      go_wp2_with fail
      refine (awake2_any _ hTr).mono ?_
      rintro e w8 ⟨rfl, h8⟩
      go_wp2
      go_ret
      exact ⟨rfl, btr B3 (btr hB h8)⟩
theorem netEnds_any (v : Value) (m : List (List Int)) (s : Int) (w : World) (hT : Tab w) (h : Rows w v m) :
    Calls Tryd.prog 13 #[.agg #[v], .int .i64 s] w fun e w' => e = .returned (.bool true) ∧ Below w.heap.size w w' := by
  cases hv : validM m with
  | false => exact ends_awake1 v m s w hT h hv
  | true =>
    cases hs : stateM m s with
    | false => exact ends_awake2 v m s w hT h hv hs
    | true =>
      obtain ⟨k, rfl, hk⟩ := state_nat hs
      exact ends_ok v m k w hT h hv hk hs
end Go.Proofs.YtibaihchnbbokaaDoor
