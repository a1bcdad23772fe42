/-
  Texts that the proof of the law stands on: H6, H7.
-/
import Derived.Test.YtmfbcnigefjgpaaDoorRdB
import Derived.Deep.CutRange
namespace Go.Proofs.YtmfbcnigefjgpaaDoor
open Go.RowKit Go.Shelf
set_option maxRecDepth 100000 in
set_option maxHeartbeats 2000000 in
theorem top_form (v u1 u2 : Value) (m : List (List Int)) (ul vl : List Int) (w : World) (hT : Tab w) (h : Rows w v m) (hu1 : Ints w u1 ul) (hu2 : Ints w u2 vl) (hv : validM m = false) :
    Calls Tryd.prog 8 #[.agg #[v], u1, u2] w fun e w' => e = .returned (.bool true) ∧ Below w.heap.size w w' := by
  obtain ⟨A, cap, rfl, hml, -⟩ := id h
  obtain ⟨Au, capu, rfl, -, -⟩ := id hu1
  obtain ⟨Av, capv, rfl, -, -⟩ := id hu2
  have hX := bal (Below.refl _ w) (.cells #[.slice A m.length cap] 24)
  have hbx := (Boxed.new w 24 (.slice A m.length cap)).cell
  go_enter Tryd.func8, Tryd.ntmps8
  go_wp2_with fail
  have hr := h.below hX
  have hTX := hT.on hX
  generalize w.alloc (.cells #[.slice A m.length cap] 24) = X at *
  refine (Reset_form _ m _ hr hv).mono ?_
  rintro e w1 ⟨rfl, h1⟩
  have c1 := (h1.cell (p := ⟨w.heap.size, 0, none⟩) (World.block_lt_of_cell? _ _ hbx)).trans hbx
  go_wp2_with fail
  refine (Apart_form _ m _ (hr.below h1) hv).mono ?_
  rintro e w2 ⟨rfl, h2⟩
  have B2 := btr h1 h2
  have c2 := (h2.cell (p := ⟨w.heap.size, 0, none⟩) (World.block_lt_of_cell? _ _ c1)).trans c1
  go_wp2_with fail
  refine (tValid_bool _ m false _ (hr.below B2) hv).mono ?_
  rintro e w3 ⟨rfl, h3⟩
  have B3 := btr B2 h3
  go_wp2_with fail
  refine (tHomes_any w3 (hTX.on B3)).mono ?_
  rintro e w4 ⟨rfl, h4⟩
  go_wp2
  go_ret
  exact ⟨rfl, btr hX (btr B3 h4)⟩
/-- A reset word leads all states to one. -/
theorem reset_all {m : List (List Int)} (hv : validM m = true) (hall : allMerge m) : ∃ t, t < m.length ∧ ∀ s, s < m.length → runM m s (resetW m) = t := by
  obtain ⟨p1, -⟩ := valid_parts hv
  have h1 := reset_one hv hall
  have hw := resetW_word hv hall
  obtain ⟨x, hx⟩ : ∃ x, imageM m (allM m.length) (resetW m) = [x] := by
    match hi : imageM m (allM m.length) (resetW m), h1 with
    | [x], _ => exact ⟨x, rfl⟩
  obtain ⟨t, rfl, ht⟩ := image_one hv hw hx
  refine ⟨t, ?_, ht⟩
  rw [← ht 0 (by omega)]
  exact runM_lt hv (resetW m) 0 (by omega) (isWordM_all hw)
set_option maxRecDepth 100000 in
set_option maxHeartbeats 4000000 in
theorem top_ok (v u1 u2 : Value) (m : List (List Int)) (ul vl : List Int) (w : World) (hT : Tab w) (h : Rows w v m) (hu1 : Ints w u1 ul) (hu2 : Ints w u2 vl) (hv : validM m = true) (hall : allMerge m) :
    Calls Tryd.prog 8 #[.agg #[v], u1, u2] w fun e w' => e = .returned (.bool true) ∧ Below w.heap.size w w' := by
  obtain ⟨p1, p2, p3, p4, -⟩ := valid_parts hv
  obtain ⟨A, cap, rfl, hml, -⟩ := id h
  obtain ⟨Au, capu, rfl, -, -⟩ := id hu1
  obtain ⟨Av, capv, rfl, -, -⟩ := id hu2
  have hX := bal (Below.refl _ w) (.cells #[.slice A m.length cap] 24)
  have hbx := (Boxed.new w 24 (.slice A m.length cap)).cell
  have Hall := hid hall
  have hnil := (apartL_nil hv).2 hall
  have hww := hid (resetW_word hv hall)
  obtain ⟨t, ht, hrun⟩ := reset_all hv hall
  have hlen := (resetW_ok hv hall).2.2
  have hcube : m.length * m.length * m.length ≤ 60 * 60 * 60 := Nat.mul_le_mul (Nat.mul_le_mul p2 p2) p2
  have hsq : m.length * m.length ≤ 60 * 60 := Nat.mul_le_mul p2 p2
  have hrb : (resetW m).length ≤ 36000 := by omega
  obtain ⟨R, hR⟩ : ∃ R, resetW m = R := ⟨_, rfl⟩
  rw [hR] at hww hrun hlen hrb
  have HR := hid hR
  have Hrun := hid hrun
  have hL1 := properM_len m ul
  have hL2 := properM_len m vl
  have Ha1 := hid (properM_all hv ul)
  have Ha2 := hid (properM_all hv vl)
  obtain ⟨L1, hL1e⟩ : ∃ L, properM m ul = L := ⟨_, rfl⟩
  obtain ⟨L2, hL2e⟩ : ∃ L, properM m vl = L := ⟨_, rfl⟩
  rw [hL1e] at hL1 Ha1
  rw [hL2e] at hL2 Ha2
  have HL1 := hid hL1e
  have HL2 := hid hL2e
  have hb1 : L1.length ≤ 2000 := by omega
  have hb2 : L2.length ≤ 2000 := by omega
  have hs1 : (6 : Int) * R.length ≤ m.length * m.length * m.length - m.length := by
    have e1 : 6 * R.length ≤ m.length * m.length * m.length - m.length := by omega
    have e2 : ((m.length * m.length * m.length : Nat) : Int) = (m.length : Int) * m.length * m.length := by simp
    have e3 : m.length ≤ m.length * m.length * m.length := by
      have := Nat.mul_le_mul (Nat.mul_le_mul p1 p1) (Nat.le_refl m.length)
      omega
    omega
  have hq1 : (m.length : Int) * m.length ≤ 3600 := by
    have e2 : ((m.length * m.length : Nat) : Int) = (m.length : Int) * m.length := by simp
    omega
  have hq0 : 0 ≤ (m.length : Int) * m.length := Int.mul_nonneg (by omega) (by omega)
  have hq2 : (m.length : Int) * m.length * m.length ≤ 216000 := by
    have e2 : ((m.length * m.length * m.length : Nat) : Int) = (m.length : Int) * m.length * m.length := by simp
    omega
  have hq3 : 0 ≤ (m.length : Int) * m.length * m.length := Int.mul_nonneg hq0 (by omega)
  clear hall hR hrun hlen hcube hsq hL1e hL2e hL1 hL2
  go_enter Tryd.func8, Tryd.ntmps8
  go_wp2_with fail
  have hr := h.below hX
  have hTX := hT.on hX
  have hua := hu1.below hX
  have hub := hu2.below hX
  generalize w.alloc (.cells #[.slice A m.length cap] 24) = X at *
  refine (Reset_ok _ m _ hTX hr hv Hall.out).mono ?_
  rintro e w1 ⟨r, rfl, ho, h1⟩
  rw [HR.out] at ho
  obtain ⟨gR, cR, hgR⟩ : ∃ A c, r = .slice A R.length c := ownsRow_slice ho
  subst hgR
  have hRn := own_nil_room ho
  have HRI := hid (Ints.of_own ho (by unfold big; omega))
  have HRn := hid hRn
  have c1 := (h1.cell (p := ⟨w.heap.size, 0, none⟩) (World.block_lt_of_cell? _ _ hbx)).trans hbx
  clear ho hRn
  go_wp2_with fail
  refine (Apart_ok _ m _ (hr.below h1) hv).mono ?_
  rintro e w2 ⟨r, rfl, ho, h2⟩
  rw [hnil] at ho
  obtain ⟨rA, rc, rfl⟩ : ∃ A c, r = .slice A 0 c := ownsRow_slice ho
  have B2 := btr h1 h2
  have c2 := (h2.cell (p := ⟨w.heap.size, 0, none⟩) (World.block_lt_of_cell? _ _ c1)).trans c1
  have HRI2 := hid (HRI.out.below h2)
  clear ho hnil
  go_wp2_with fail
  refine (tValid_bool _ m true _ (hr.below B2) hv).mono ?_
  rintro e w3 ⟨rfl, h3⟩
  have B3 := btr B2 h3
  have c3 := (h3.cell (p := ⟨w.heap.size, 0, none⟩) (World.block_lt_of_cell? _ _ c2)).trans c2
  have HRI3 := hid (HRI2.out.below h3)
  clear c1 c2 h1 h2 h3 B2 HRI HRI2
  have hr3 := hr.below B3
  have hu3 := hua.below B3
  have hv3 := hub.below B3
  go_wp2_with fail
  go_region_held3 (fun w' => Below w3.heap.size w3 w' ∧ w'.cell? ⟨w.heap.size, 0, none⟩ = some (.slice A m.length cap)) (exact held_one c3 (by first | exact below_dr w3 1 | assumption)) (first
    | (go_at_call 31; (refine (tProper_any _ _ m vl _ (hr3.below kA) (hv3.below kA) hv).mono ?_; rw [HL2.out]; rintro e y2 ⟨A2, k2, rfl, hn2, hI2, hy2⟩; have kB : Below w3.heap.size w3 y2 := btr kA hy2))
    | (go_at_call 31; go_must (refine (tProper_any _ _ m ul _ (hr3.below (by first | exact below_dr w3 1 | exact Below.refl _ _)) (hu3.below (by first | exact below_dr w3 1 | exact Below.refl _ _)) hv).mono ?_; rw [HL1.out]; rintro e y1 ⟨A1, k1, rfl, hn1, hI1, hy1⟩; have kA : Below w3.heap.size w3 y1 := btr (by first | exact below_dr w3 1 | exact Below.refl _ _) hy1)))
  have B4 := btr B3 kB
  have c4 := (kB.cell (p := ⟨w.heap.size, 0, none⟩) (World.block_lt_of_cell? _ _ c3)).trans c3
  have hI1' := hI1.below hy2
  have q1 := hid (show Room y2 (.slice A1 L1.length k1) L1 from ⟨A1, k1, rfl, hn1, hI1'⟩)
  have q2 := hid (show Room y2 (.slice gR R.length cR) R from ⟨gR, cR, rfl, HRn.out, HRI3.out.below kB⟩)
  have q3 := hid (show Room y2 (.slice A2 L2.length k2) L2 from ⟨A2, k2, rfl, hn2, hI2⟩)
  have hRy := hid (HRI3.out.below kB)
  have hry := hr.below B4
  have hTy := hTX.on B4
  have B4h := hid B4
  obtain ⟨LJ, hLJ⟩ : ∃ L, [L1, R, L2].flatten = L := ⟨_, rfl⟩
  have hj1 : LJ = L1 ++ (R ++ L2) := by rw [← hLJ]; simp
  have hj2 : LJ.length ≤ 50000 := by rw [hj1]; simp only [List.length_append]; omega
  have hj3 : LJ.all (inB 0 ((letters m : Int) - 1)) = true := by rw [hj1, List.all_append, List.all_append, Ha1.out, Ha2.out, isWordM_all hww.out]; rfl
  have hj4 : ∀ s, s < m.length → runM m s LJ = runM m t L2 := fun s hs => by
    rw [hj1, runM_append, runM_append, Hrun.out _ (runM_lt hv L1 s hs Ha1.out)]
  have ht2 := runM_lt hv L2 t ht Ha2.out
  have HJ := hid hLJ
  have Hj3 := hid hj3
  have Hj4 := hid hj4
  have Ht2 := hid ht2
  have hRa := hid (isWordM_all hww.out)
  have w1' : IntKind.i64.wrap ((6 : Int) * R.length) = 6 * R.length := IntWalk.i64_in _ (by omega)
  have w2' : IntKind.i64.wrap ((m.length : Int) * m.length) = (m.length : Int) * m.length := IntWalk.i64_in _ (by omega)
  have w3' : IntKind.i64.wrap ((m.length : Int) * m.length * m.length) = (m.length : Int) * m.length * m.length := IntWalk.i64_in _ (by omega)
  have w4' : IntKind.i64.wrap ((m.length : Int) * m.length * m.length - m.length) = (m.length : Int) * m.length * m.length - m.length := IntWalk.i64_in _ (by omega)
  have hd1 : decide ((6 : Int) * R.length ≤ (m.length : Int) * m.length * m.length - m.length) = true := by simp; omega
  clear hj1 hj3 hj4 ht2 hLJ hI1 hI1' hI2 hy1 hy2 kA kB c3 hr3 hu3 hv3 B3 HRI3
  go_wp2_with fail
  go_region_held3 (fun w' => Below y2.heap.size y2 w' ∧ w'.cell? ⟨w.heap.size, 0, none⟩ = some (.slice A m.length cap)) (exact held_one c4 (by first | exact below_dr y2 1 | exact bal (by assumption) _ | assumption)) (first
    | (go_at_call 30; go_must (refine (tHomes_any _ (hTy.on kS)).mono ?_; rintro e z5 ⟨rfl, hz5⟩; have kH : Below y2.heap.size y2 z5 := btr kS hz5))
    | (go_at_call 33; (refine (tSpread_one _ _ m LJ (runM m t L2) _ (hry.below kJ) hIJ hv Hj3.out Ht2.out Hj4.out).mono ?_; rintro e z4 ⟨rfl, hz4⟩; have kS : Below y2.heap.size y2 z4 := btr kJ hz4))
    | (go_at_call 34; go_must (refine (tJoined_any _ 3 _ [L1, R, L2] LJ _ (lrows3 (by simp) (q1.out.below kW) (q2.out.below kW) (q3.out.below kW)) HJ.out hj2 (by omega)).mono ?_; rintro e z3 ⟨AJ, kj, rfl, hnJ, hIJ, hz3⟩; have kJ : Below y2.heap.size y2 z3 := btr (bal kW _) hz3))
    | (go_at_call 33; go_must (refine (tSpread_one _ _ m R t _ (hry.below kR) (hRy.out.below kR) hv hRa.out ht Hrun.out).mono ?_; rintro e z2 ⟨rfl, hz2⟩; have kW : Below y2.heap.size y2 z2 := btr kR hz2))
    | (go_at_call 32; go_must (refine (tRight_any _ _ m R _ (hry.below (by first | exact below_dr y2 1 | exact Below.refl _ _)) (hRy.out.below (by first | exact below_dr y2 1 | exact Below.refl _ _)) hv hww.out).mono ?_; rintro e z1 ⟨rfl, hz1⟩; have kR : Below y2.heap.size y2 z1 := btr (by first | exact below_dr y2 1 | exact Below.refl _ _) hz1)))
  go_wp2
  go_ret
  exact ⟨rfl, btr hX (btr B4h.out kH)⟩
end Go.Proofs.YtmfbcnigefjgpaaDoor
namespace Go.Proofs.YtmfbcnigefjgpaaDoor
open Go.RowKit Go.Shelf
theorem never_merge {m : List (List Int)} (hv : validM m = true) {e : Nat × Nat} (he : e ∈ apartL m) {l : List Int} (hl : l.all (inB 0 ((letters m : Int) - 1)) = true) : runM m e.1 l ≠ runM m e.2 l := by
  obtain ⟨h1, h2, h3⟩ := apartL_mem.1 he
  intro h
  rcases mlen_spec hv (show e.1 < m.length by omega) h2 with ⟨_, k⟩ | ⟨j, _, k, _⟩
  · exact k _ ⟨l, hl, rfl, h⟩
  · omega
theorem tLead_as (v u : Value) (m : List (List Int)) (s t : Nat) (l : List Int) (w : World) (h : Rows w v m) (hu : Ints w u l) (hv : validM m = true) (hs : s < m.length) (hw : l.all (inB 0 ((letters m : Int) - 1)) = true) (ht : Hid (runM m s l = t)) :
    Calls Tryd.prog 35 #[.agg #[v], .int .i64 s, u] w fun e w' => e = .returned (.int .i64 t) ∧ Below w.heap.size w w' := by
  rw [← ht.out]; exact tLead_any v u m s l w h hu hv hs hw
set_option maxRecDepth 100000 in
set_option maxHeartbeats 16000000 in
theorem top_none (v u1 u2 : Value) (m : List (List Int)) (ul vl : List Int) (w : World) (hT : Tab w) (h : Rows w v m) (hu1 : Ints w u1 ul) (hu2 : Ints w u2 vl) (hv : validM m = true) (hno : ¬ allMerge m) :
    Calls Tryd.prog 8 #[.agg #[v], u1, u2] w fun e w' => e = .returned (.bool true) ∧ Below w.heap.size w w' := by
  obtain ⟨p1, p2, p3, p4, -⟩ := valid_parts hv
  obtain ⟨A, cap, rfl, hml, -⟩ := id h
  obtain ⟨Au, capu, rfl, -, -⟩ := id hu1
  obtain ⟨Av, capv, rfl, -, -⟩ := id hu2
  have hX := bal (Below.refl _ w) (.cells #[.slice A m.length cap] 24)
  have hbx := (Boxed.new w 24 (.slice A m.length cap)).cell
  have Hno := hid hno
  have hnl : (apartL m).length ≠ 0 := fun e => hno ((apartL_nil hv).1 (List.length_eq_zero_iff.1 e))
  have hal := apartL_len hv
  have hmem := hid (fun e => (apartL_mem (m := m) (e := e)).1)
  have hnev := hid (fun (e : Nat × Nat) he (l : List Int) hl => never_merge hv (e := e) he (l := l) hl)
  have hL1 := properM_len m ul
  have hL2 := properM_len m vl
  have Ha1 := hid (properM_all hv ul)
  have Ha2 := hid (properM_all hv vl)
  obtain ⟨L1, hL1e⟩ : ∃ L, properM m ul = L := ⟨_, rfl⟩
  obtain ⟨L2, hL2e⟩ : ∃ L, properM m vl = L := ⟨_, rfl⟩
  rw [hL1e] at hL1 Ha1
  rw [hL2e] at hL2 Ha2
  have HL1 := hid hL1e
  have HL2 := hid hL2e
  have hb1 : L1.length ≤ 2000 := by omega
  have hb2 : L2.length ≤ 2000 := by omega
  clear hL1e hL2e hL1 hL2 hno
  go_enter Tryd.func8, Tryd.ntmps8
  go_wp2_with fail
  have hr := h.below hX
  have hTX := hT.on hX
  have hua := hu1.below hX
  have hub := hu2.below hX
  generalize w.alloc (.cells #[.slice A m.length cap] 24) = X at *
  refine (Reset_none _ m _ hr hv Hno.out).mono ?_
  rintro e w1 ⟨rfl, h1⟩
  have c1 := (h1.cell (p := ⟨w.heap.size, 0, none⟩) (World.block_lt_of_cell? _ _ hbx)).trans hbx
  go_wp2_with fail
  refine (Apart_ok _ m _ (hr.below h1) hv).mono ?_
  rintro e w2 ⟨r, rfl, ho, h2⟩
  obtain ⟨rA, rc, rfl⟩ := ownsRow_slice ho
  have B2 := btr h1 h2
  have c2 := (h2.cell (p := ⟨w.heap.size, 0, none⟩) (World.block_lt_of_cell? _ _ c1)).trans c1
  have HO := hid ho
  clear ho
  generalize hAP : apartL m = AP at *
  have HAP := hid hAP
  clear hAP
  go_wp2_with fail
  refine (tValid_bool _ m true _ (hr.below B2) hv).mono ?_
  rintro e w3 ⟨rfl, h3⟩
  have B3 := btr B2 h3
  have c3 := (h3.cell (p := ⟨w.heap.size, 0, none⟩) (World.block_lt_of_cell? _ _ c2)).trans c2
  have HO3 := hid (own_below HO.out h3)
  clear c1 c2 h1 h2 h3 B2 HO
  have hr3 := hr.below B3
  have hu3 := hua.below B3
  have hv3 := hub.below B3
  go_wp2_with fail
  go_region_held3 (fun w' => Below w3.heap.size w3 w' ∧ w'.cell? ⟨w.heap.size, 0, none⟩ = some (.slice A m.length cap)) (exact held_one c3 (by first | exact below_dr w3 1 | assumption)) (first
    | (go_at_call 31; (refine (tProper_any _ _ m vl _ (hr3.below kA) (hv3.below kA) hv).mono ?_; rw [HL2.out]; rintro e y2 ⟨A2, k2, rfl, hn2, hI2, hy2⟩; have kB : Below w3.heap.size w3 y2 := btr kA hy2))
    | (go_at_call 31; go_must (refine (tProper_any _ _ m ul _ (hr3.below (by first | exact below_dr w3 1 | exact Below.refl _ _)) (hu3.below (by first | exact below_dr w3 1 | exact Below.refl _ _)) hv).mono ?_; rw [HL1.out]; rintro e y1 ⟨A1, k1, rfl, hn1, hI1, hy1⟩; have kA : Below w3.heap.size w3 y1 := btr (by first | exact below_dr w3 1 | exact Below.refl _ _) hy1)))
  have B4 := btr B3 kB
  have c4 := (kB.cell (p := ⟨w.heap.size, 0, none⟩) (World.block_lt_of_cell? _ _ c3)).trans c3
  have HO4 := hid (own_below HO3.out kB)
  have hI1' := hI1.below hy2
  have q1 := hid (show Room y2 (.slice A1 L1.length k1) L1 from ⟨A1, k1, rfl, hn1, hI1'⟩)
  have q3 := hid (show Room y2 (.slice A2 L2.length k2) L2 from ⟨A2, k2, rfl, hn2, hI2⟩)
  have hI1y := hid hI1'
  have hry := hr.below B4
  have hTy := hTX.on B4
  have B4h := hid B4
  obtain ⟨LJ, hLJ⟩ : ∃ L, [L1, L2].flatten = L := ⟨_, rfl⟩
  have hj1 : LJ = L1 ++ L2 := by rw [← hLJ]; simp
  have hj2 : LJ.length ≤ 50000 := by rw [hj1]; simp only [List.length_append]; omega
  have hj3 : LJ.all (inB 0 ((letters m : Int) - 1)) = true := by rw [hj1, List.all_append, Ha1.out, Ha2.out]; rfl
  have HJ := hid hLJ
  have Hj3 := hid hj3
  have hn0 : ((AP.length : Int) == 0) = false := beq_eq_false_iff_ne.2 (by omega)
  clear hj1 hj3 hLJ hI1 hI1' hI2 hy1 hy2 kA kB c3 hr3 hu3 hv3 B3 HO3 hn1 hn2 B4
  go_wp2_with fail
  clear hn0
  go_loopw [12] (fun iv wr => ∃ i : Nat, i ≤ AP.length ∧ iv = .int .i64 i ∧ Below y2.heap.size y2 wr) (fun iv _ => AP.length - (intOf iv).toNat)
  case atStart => exact ⟨0, Nat.zero_le _, rfl, Below.refl _ _⟩
  case round =>
    obtain ⟨i, hi, rfl, hB⟩ := hrel
    have cr := (hB.cell (p := ⟨w.heap.size, 0, none⟩) (World.block_lt_of_cell? _ _ c4)).trans c4
    by_cases hil : i < AP.length
    · have his : (i : Int) < AP.length := by omega
      obtain ⟨gp, cp, hgp⟩ := ownsRow_pos' HO4.out (by omega)
      simp only [Value.slice.injEq] at hgp
      obtain ⟨rfl, -, rfl⟩ := hgp
      obtain ⟨e1, e2⟩ := pair_cells HO4.out (List.getElem?_eq_getElem hil)
      have d1 := (hB.cell (p := ⟨gp, i * 2, none⟩) (World.block_lt_of_cell? _ _ e1)).trans e1
      have d2 := (hB.cell (p := ⟨gp, i * 2 + 1, none⟩) (World.block_lt_of_cell? _ _ e2)).trans e2
      have hin := hmem.out _ (List.getElem_mem hil)
      have hm1 := hnev.out _ (List.getElem_mem hil) L1 Ha1.out
      have hm2 := hnev.out _ (List.getElem_mem hil) LJ Hj3.out
      clear e1 e2
      generalize AP[i] = e0 at *
      obtain ⟨a, b⟩ := e0
      simp only at d1 d2 hin hm1 hm2
      obtain ⟨hab, hbn, -⟩ := hin
      have han : a < m.length := by omega
      obtain ⟨r1, hr1⟩ : ∃ r, runM m a L1 = r := ⟨_, rfl⟩
      obtain ⟨r2, hr2⟩ : ∃ r, runM m b L1 = r := ⟨_, rfl⟩
      obtain ⟨r3, hr3⟩ : ∃ r, runM m a LJ = r := ⟨_, rfl⟩
      obtain ⟨r4, hr4⟩ : ∃ r, runM m b LJ = r := ⟨_, rfl⟩
      rw [hr1, hr2] at hm1
      rw [hr3, hr4] at hm2
      have Hr1 := hid hr1
      have Hr2 := hid hr2
      have Hr3 := hid hr3
      have Hr4 := hid hr4
      have f1 : ((r1 : Int) == (r2 : Int)) = false := beq_eq_false_iff_ne.2 (by omega)
      have f2 : ((r3 : Int) == (r4 : Int)) = false := beq_eq_false_iff_ne.2 (by omega)
      have f3 : decide ((a : Int) < 0) = false := by simp
      have f6 : ¬ m.length ≤ b := by omega
      have f7 : ¬ b ≤ a := by omega
      have f8 : decide (m.length ≤ b) = false := by simp; omega
      have f9 : decide (b ≤ a) = false := by simp; omega
      have f10 : (r1 == r2) = false := beq_eq_false_iff_ne.2 hm1
      have f11 : (r3 == r4) = false := beq_eq_false_iff_ne.2 hm2
      have f4 : decide ((m.length : Int) ≤ (b : Int)) = false := by simp; omega
      have f5 : decide ((b : Int) ≤ (a : Int)) = false := by simp; omega
      clear hr1 hr2 hr3 hr4 hm1 hm2
      go_wp2_with fail
      go_quiet (fail)
      have hBn := bdr hB nq
      have crn := ((below_dr wr nq).cell (p := ⟨w.heap.size, 0, none⟩) (World.block_lt_of_cell? _ _ cr)).trans cr
      generalize wr.drewN nq = y at *
      have hyr := hid (hry.below hBn)
      have q1y := hid (q1.out.below hBn)
      have q3y := hid (q3.out.below hBn)
      have i1y := hid (hI1y.out.below hBn)
      clear cr d1 d2 hB
      go_wp2_with fail
      go_region_held3 (fun w' => Below y.heap.size y w' ∧ w'.cell? ⟨w.heap.size, 0, none⟩ = some (.slice A m.length cap)) (exact held_one crn (by first | exact below_dr y 1 | exact bal (by assumption) _ | exact bal (bal (by assumption) _) _ | assumption)) (first
        | (go_at_call 35; have gd := kJ2; clear gd; (refine (tLead_as _ _ m b r4 LJ _ (hyr.out.below kJ2) iJ2 hv hbn Hj3.out Hr4).mono ?_; rintro e z6 ⟨rfl, hz6⟩; have kD : Below y.heap.size y z6 := btr kJ2 hz6))
        | (go_at_call 34; have gd := kC; clear gd; (refine (tJoined_any _ 2 (vs2 (.slice A1 L1.length k1) (.slice A2 L2.length k2)) [L1, L2] LJ _ (by first
            | (refine lrows2 ?_ (q1y.out.below kC) (q3y.out.below kC); simp; done)
            | (refine (lrows2 ?_ (q1y.out.below kJ1) (q3y.out.below kJ1)).below hz4; simp; done)
            | (refine (lrows2 ?_ (q1y.out.below (bal kB _)) (q3y.out.below (bal kB _))).below (btr hz3 hz4); simp; done)
            | (refine (lrows2 ?_ (q1y.out.below kB) (q3y.out.below kB)).below (btr (bal (Below.refl _ _) _) (btr hz3 hz4)); simp; done)) HJ.out hj2 (by omega)).mono ?_; rintro e z5 ⟨AJ2, kj2, rfl, hnJ2, iJ2, hz5⟩; have kJ2 : Below y.heap.size y z5 := btr (by first | exact kC | exact bal kC _) hz5))
        | (go_at_call 35; have gd := kJ1; clear gd; (refine (tLead_as _ _ m a r3 LJ _ (hyr.out.below (by first | exact kJ1 | exact bal kJ1 _)) (by first | exact iJ1 | exact iJ1.alloc _) hv han Hj3.out Hr3).mono ?_; rintro e z4 ⟨rfl, hz4⟩; have kC : Below y.heap.size y z4 := btr (by first | exact kJ1 | exact bal kJ1 _) hz4))
        | (go_at_call 34; go_must (refine (tJoined_any _ 2 (vs2 (.slice A1 L1.length k1) (.slice A2 L2.length k2)) [L1, L2] LJ _ (by first
            | (refine lrows2 ?_ (q1y.out.below kB) (q3y.out.below kB); simp; done)
            | (refine (lrows2 ?_ (q1y.out.below kB) (q3y.out.below kB)).below (bal (Below.refl _ _) _); simp; done)
            | (refine lrows2 ?_ (q1y.out.below (bal kB _)) (q3y.out.below (bal kB _)); simp; done)) HJ.out hj2 (by omega)).mono ?_; rintro e z3 ⟨AJ1, kj1, rfl, hnJ1, iJ1, hz3⟩; have kJ1 : Below y.heap.size y z3 := btr (by first | exact bal kB _ | exact bal (bal kB _) _) hz3))
        | (go_at_call 35; have gd := kA; clear gd; (refine (tLead_as _ _ m b r2 L1 _ (hyr.out.below kA) (i1y.out.below kA) hv hbn Ha1.out Hr2).mono ?_; rintro e z2 ⟨rfl, hz2⟩; have kB : Below y.heap.size y z2 := btr kA hz2))
        | (go_at_call 35; go_must (refine (tLead_as _ _ m a r1 L1 _ (hyr.out.below (by first | exact below_dr y 1 | exact Below.refl _ _)) (i1y.out.below (by first | exact below_dr y 1 | exact Below.refl _ _)) hv han Ha1.out Hr1).mono ?_; rintro e z1 ⟨rfl, hz1⟩; have kA : Below y.heap.size y z1 := btr (by first | exact below_dr y 1 | exact Below.refl _ _) hz1)))
      all_goals go_wp2_with fail
      all_goals go_roundw
      all_goals first
        | exact ⟨i + 1, by omega, by go_num, btr hBn kD⟩
        | (simp [intOf]; omega)
    · have his : ¬ (i : Int) < AP.length := by omega
      go_wp2_with fail
      refine (tHomes_any _ (hTy.on hB)).mono ?_
      rintro e w9 ⟨rfl, h9⟩
      go_wp2
      go_ret
      exact ⟨rfl, btr hX (btr B4h.out (btr hB h9))⟩
theorem topHome_any (v u1 u2 : Value) (m : List (List Int)) (ul vl : List Int) (w : World) (hT : Tab w) (h : Rows w v m) (hu1 : Ints w u1 ul) (hu2 : Ints w u2 vl) :
    Calls Tryd.prog 8 #[.agg #[v], u1, u2] w fun e w' => e = .returned (.bool true) ∧ Below w.heap.size w w' := by
  cases hv : validM m with
  | false => exact top_form v u1 u2 m ul vl w hT h hu1 hu2 hv
  | true =>
    by_cases ha : allMerge m
    · exact top_ok v u1 u2 m ul vl w hT h hu1 hu2 hv ha
    · exact top_none v u1 u2 m ul vl w hT h hu1 hu2 hv ha
end Go.Proofs.YtmfbcnigefjgpaaDoor
