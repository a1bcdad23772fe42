/-
  Texts that the proof of the law stands on: G6.
-/
import Derived.Test.YtmfbcnigefjgpaaDoorRcB
import Derived.Deep.CutRange
namespace Go.Proofs.YtmfbcnigefjgpaaDoor
open Go.RowKit Go.Shelf
set_option maxRecDepth 100000 in
set_option maxHeartbeats 2000000 in
theorem closed_form (v : Value) (m : List (List Int)) (p q : Int) (w : World) (hT : Tab w) (h : Rows w v m) (hbad : (validM m && (stateM m p && stateM m q)) = false) :
    Calls Tryd.prog 5 #[.agg #[v], .int .i64 p, .int .i64 q] w fun e w' => e = .returned (.bool true) ∧ Below w.heap.size w w' := by
  obtain ⟨A, cap, rfl, hml, -⟩ := id h
  have hX := bal (Below.refl _ w) (.cells #[.slice A m.length cap] 24)
  have hbx := (Boxed.new w 24 (.slice A m.length cap)).cell
  have Hbad := hid hbad
  clear hbad
  go_enter Tryd.func5, Tryd.ntmps5
  go_wp2_with fail
  have hr := h.below hX
  have hTX := hT.on hX
  generalize w.alloc (.cells #[.slice A m.length cap] 24) = X at *
  cases hv : validM m with
  | false =>
    refine (rValid_bool _ m false _ hr hv).mono ?_
    rintro e w1 ⟨rfl, h1⟩
    go_wp2_with fail
    refine (awake3_any w1 (hTX.on h1)).mono ?_
    rintro e w4 ⟨rfl, h4⟩
    go_wp2
    go_ret
    exact ⟨rfl, btr hX (btr h1 h4)⟩
  | true =>
    refine (rValid_bool _ m true _ hr hv).mono ?_
    rintro e w1 ⟨rfl, h1⟩
    have c1 := (h1.cell (p := ⟨w.heap.size, 0, none⟩) (World.block_lt_of_cell? _ _ hbx)).trans hbx
    have hr1 := hr.below h1
    cases hsp : stateM m p with
    | false =>
      go_wp2_with fail
      refine (rState_bool _ m p false _ hr1 hsp).mono ?_
      rintro e w2 ⟨rfl, h2⟩
      have B2 := btr h1 h2
      go_wp2_with fail
      refine (awake3_any w2 (hTX.on B2)).mono ?_
      rintro e w4 ⟨rfl, h4⟩
      go_wp2
      go_ret
      exact ⟨rfl, btr hX (btr B2 h4)⟩
    | true =>
      go_wp2_with fail
      refine (rState_bool _ m p true _ hr1 hsp).mono ?_
      rintro e w2 ⟨rfl, h2⟩
      have B2 := btr h1 h2
      have c2 := (h2.cell (p := ⟨w.heap.size, 0, none⟩) (World.block_lt_of_cell? _ _ c1)).trans c1
      have hsq : stateM m q = false := by have := Hbad.out; rw [hv, hsp] at this; simpa using this
      go_wp2_with fail
      refine (rState_bool _ m q false _ (hr.below B2) hsq).mono ?_
      rintro e w3 ⟨rfl, h3⟩
      have B3 := btr B2 h3
      go_wp2_with fail
      refine (awake3_any w3 (hTX.on B3)).mono ?_
      rintro e w4 ⟨rfl, h4⟩
      go_wp2
      go_ret
      exact ⟨rfl, btr hX (btr B3 h4)⟩
/-- What Reset returns beside the word. -/
theorem Reset_code (v : Value) (m : List (List Int)) (c : Int) (w : World) (hT : Tab w) (h : Rows w v m) (hv : validM m = true) (hc : Hid ((allMerge m ∧ c = 0) ∨ (¬ allMerge m ∧ c = 4))) :
    Calls Tryd.prog 19 #[.agg #[v]] w fun e w' => ∃ r, e = .returned (.tuple #[r, .int .i64 c]) ∧ Below w.heap.size w w' := by
  rcases hc.out with ⟨ha, rfl⟩ | ⟨ha, rfl⟩
  · refine (Reset_ok v m w hT h hv ha).mono ?_
    rintro e w' ⟨r, rfl, _, hb⟩
    exact ⟨r, rfl, hb⟩
  · refine (Reset_none v m w h hv ha).mono ?_
    rintro e w' ⟨rfl, hb⟩
    exact ⟨_, rfl, hb⟩
/-- What Merge says of two states: whether they are apart. -/
theorem merge_code {m : List (List Int)} (hv : validM m = true) {p q : Nat} (hp : p < m.length) (hq : q < m.length) {c : Int} {u : List Int} (h : MergeRes m p q c u) : (c = 4 ∧ apT (apartL m) p q = true) ∨ (c = 0 ∧ apT (apartL m) p q = false) := by
  rw [apT_all hv hp hq]
  rcases h with ⟨h1, rfl, _⟩ | ⟨j, h1, rfl, _⟩
  · exact .inl ⟨rfl, decide_eq_true (by omega)⟩
  · exact .inr ⟨rfl, decide_eq_false (by rw [mlen_of hv hp hq h1]; omega)⟩
/-- Cells that lie elsewhere stay behind a store. -/
theorem held4_set {X : World} {R i : Nat} {u : Value} {a1 a2 a3 a4 : Addr} {u1 u2 u3 u4 : Value} (N : a1.block ≠ R ∧ a2.block ≠ R ∧ a3.block ≠ R ∧ a4.block ≠ R) (h : X.cell? a1 = some u1 ∧ X.cell? a2 = some u2 ∧ X.cell? a3 = some u3 ∧ X.cell? a4 = some u4) :
    (X.setCell ⟨R, i, none⟩ u).cell? a1 = some u1 ∧ (X.setCell ⟨R, i, none⟩ u).cell? a2 = some u2 ∧ (X.setCell ⟨R, i, none⟩ u).cell? a3 = some u3 ∧ (X.setCell ⟨R, i, none⟩ u).cell? a4 = some u4 := by
  obtain ⟨c1, c2, c3, c4⟩ := h
  obtain ⟨n1, n2, n3, n4⟩ := N
  have k := fun (a : Addr) (v : Value) (hn : a.block ≠ R) (c : X.cell? a = some v) => show (X.setCell ⟨R, i, none⟩ u).cell? a = some v from (World.cell?_of_block (Below.heap_setCell _ _ _ _ hn)).trans c
  exact ⟨k _ _ n1 c1, k _ _ n2 c2, k _ _ n3 c3, k _ _ n4 c4⟩
set_option maxRecDepth 100000 in
set_option maxHeartbeats 8000000 in
theorem closed_walk (v : Value) (m : List (List Int)) (p q : Nat) (c0 c : Int) (u : List Int) (w : World) (hT : Tab w) (h : Rows w v m) (hv : validM m = true) (hp : p < m.length) (hq : q < m.length)
    (hc0 : Hid ((allMerge m ∧ c0 = 0) ∨ (¬ allMerge m ∧ c0 = 4))) (hres : Hid (MergeRes m p q c u)) :
    Calls Tryd.prog 5 #[.agg #[v], .int .i64 p, .int .i64 q] w fun e w' => e = .returned (.bool true) ∧ Below w.heap.size w w' := by
  obtain ⟨i0, hi, hz0, hz1, hz2⟩ := info_parts infoBoolRow
  obtain ⟨j0, hj, hy0, hy1, hy2⟩ := info_parts infoBool
  obtain ⟨p1, p2, p3, p4, p5⟩ := valid_parts hv
  obtain ⟨A, cap, rfl, hml, hcm⟩ := id h
  have Hcm := hid hcm
  have Hp5 := hid p5
  have hX := bal (Below.refl _ w) (.cells #[.slice A m.length cap] 24)
  have hbx := (Boxed.new w 24 (.slice A m.length cap)).cell
  have hsp : stateM m (p : Int) = true := by unfold stateM; exact inB_true ⟨by omega, by omega⟩
  have hsq : stateM m (q : Int) = true := by unfold stateM; exact inB_true ⟨by omega, by omega⟩
  have Hsp := hid hsp
  have Hsq := hid hsq
  have hal := apartL_len hv
  have hnil := hid (apartL_nil hv)
  have hmem := hid (fun e => (apartL_mem (m := m) (e := e)).1)
  have hstep := hid (fun (e : Nat × Nat) he (x : Nat) (hx : x < letters m) => apart_step hv (e := e) he hx)
  have hcode := hid (merge_code hv hp hq hres.out)
  clear hsp hsq p5 hcm
  go_enter Tryd.func5, Tryd.ntmps5
  go_wp2_with fail
  have hr := h.below hX
  have hTX := hT.on hX
  generalize w.alloc (.cells #[.slice A m.length cap] 24) = X at *
  refine (rValid_bool _ m true _ hr hv).mono ?_
  rintro e w1 ⟨rfl, h1⟩
  have c1 := (h1.cell (p := ⟨w.heap.size, 0, none⟩) (World.block_lt_of_cell? _ _ hbx)).trans hbx
  go_wp2_with fail
  refine (rState_bool _ m p true _ (hr.below h1) Hsp.out).mono ?_
  rintro e w2 ⟨rfl, h2⟩
  have B2 := btr h1 h2
  have c2 := (h2.cell (p := ⟨w.heap.size, 0, none⟩) (World.block_lt_of_cell? _ _ c1)).trans c1
  go_wp2_with fail
  refine (rState_bool _ m q true _ (hr.below B2) Hsq.out).mono ?_
  rintro e w3 ⟨rfl, h3⟩
  have B3 := btr B2 h3
  have c3 := (h3.cell (p := ⟨w.heap.size, 0, none⟩) (World.block_lt_of_cell? _ _ c2)).trans c2
  go_wp2_with fail
  refine (Reset_code _ m c0 _ (hTX.on B3) (hr.below B3) hv hc0).mono ?_
  rintro e w4 ⟨rr, rfl, h4⟩
  have B4 := btr B3 h4
  have c4 := (h4.cell (p := ⟨w.heap.size, 0, none⟩) (World.block_lt_of_cell? _ _ c3)).trans c3
  clear c1 c2 c3 h1 h2 h3 h4 B2 B3
  go_wp2_with fail
  refine (Apart_ok _ m _ (hr.below B4) hv).mono ?_
  rintro e w5 ⟨r, rfl, ho, h5⟩
  obtain ⟨rA, rc, rfl⟩ := ownsRow_slice ho
  have cZ := (h5.cell (p := ⟨w.heap.size, 0, none⟩) (World.block_lt_of_cell? _ _ c4)).trans c4
  have BZ := hid (btr B4 h5)
  have HO := hid ho
  clear ho h5 c4 B4
  generalize hAP : apartL m = AP at *
  have HAP := hid hAP
  clear hAP
  have hll := hid (show (AP.length = 0 ↔ AP = []) from List.length_eq_zero_iff)
  go_upto_region 5 with fail
  go_cut [59] from 42 to 58 (fun tv wc => tv = .bool false ∧ w5 = wc)
  case first =>
    rcases hc0.out with ⟨ha, rfl⟩ | ⟨ha, rfl⟩
    · have hn0 : AP.length = 0 := hll.out.2 (hnil.out.2 ha)
      have e1 : ((AP.length : Int) == 0) = true := beq_iff_eq.2 (by omega)
      clear hn0 ha
      go_wp2_with fail
      go_meet
      exact ⟨rfl, rfl⟩
    · have hn0 : AP.length ≠ 0 := fun e => ha (hnil.out.1 (hll.out.1 e))
      have e1 : ((AP.length : Int) == 0) = false := beq_eq_false_iff_ne.2 (by omega)
      clear hn0 ha
      go_wp2_with fail
      go_meet
      exact ⟨rfl, rfl⟩
  case rest =>
    obtain ⟨rfl, rfl⟩ := hcut
    clear hll hnil hc0
    go_wp2_with (at_make; go_must (refine wpList_make_full _ rfl _ _ 45 rfl w5.heap.size 46 i0 (.slice none 0 0) 1 Tryd.underlying45 hi hz0 hz1 .i64 .i64 _ _ m.length rfl rfl rfl rfl (by rw [hz2]; omega) (by unfold maxLen; omega) (by simp) ?_); intro w6 hown hgrow; rw [show Value.cells (.slice none 0 0) = #[.slice none 0 0] from rfl, toList_madeCells_one, Nat.mul_one] at hown)
    have hT0 : BTb w6 w5.heap.size w5.heap.size m.length 0 (fun _ => 0) (fun _ _ => false) := BTb.new (by simpa using hown)
    have hB0 : Below w5.heap.size w5 w6 := (Below.refl _ w5).grown hgrow (Nat.le_refl _) (fun q hq => by cases hq)
    have hltb := World.block_lt_of_cell? _ _ cZ
    have HltZ := hid hltb
    clear hown hgrow hltb
    go_loopw [12] (fun sv wr => ∃ (s : Nat) (B : Nat → Nat), s ≤ m.length ∧ sv = .int .i64 s ∧ BTb wr w5.heap.size w5.heap.size m.length s B (fun _ _ => false) ∧ Below w5.heap.size w5 wr) (fun sv _ => m.length - (intOf sv).toNat)
    case atStart => exact ⟨0, fun _ => 0, Nat.zero_le _, rfl, hT0, hB0⟩
    case round =>
      clear hT0 hB0
      obtain ⟨s, B, hs, rfl, hTb, hB⟩ := hrel
      have cr := (hB.cell (p := ⟨w.heap.size, 0, none⟩) HltZ.out).trans cZ
      have HT := hid hTb
      clear hTb
      by_cases hlt : s < m.length
      · have hss : (s : Int) < m.length := by omega
        go_wp2_with (at_make; go_must (refine wpList_make_full _ rfl _ _ 46 rfl w5.heap.size 4 j0 (.bool false) 1 Tryd.underlying46 hj hy0 hy1 .i64 .i64 _ _ m.length rfl rfl rfl rfl (by rw [hy2]; omega) (by unfold maxLen; omega) (by have := hB.size; simp; omega) ?_); intro w7 hown hgrow; rw [show Value.cells (.bool false) = #[.bool false] from rfl, toList_madeCells_one, Nat.mul_one] at hown; have hTk := HT.out.kept (W' := w7) (fun b _ hb => hgrow.block b hb (by simp)); have hcs := hTk.cell hlt; rw [if_neg (Nat.lt_irrefl s)] at hcs; have hfs := hTk.freeO s)
        have hown2 : w7.ownsRow w5.heap.size 4 1 (.slice (some ⟨wr.heap.size, 0, none⟩) m.length m.length) m.length ((Lb m.length (fun _ => false)).map fun x => .bool x) := by
          rw [show ((Lb m.length fun _ => false).map fun x => Value.bool x) = List.replicate m.length (.bool false) from by apply List.ext_getElem <;> simp [Lb]]
          simpa using hown
        have hrow := HT.out.row hlt (fun c _ hc => hgrow.block c hc (by simp)) (Nat.le_refl _) hown2
        have hBs := (hB.grown hgrow (by exact hB.size) (fun q hq => by cases hq)).setCell (p := ⟨w5.heap.size, s, none⟩) (Nat.le_refl _) (.slice (some ⟨wr.heap.size, 0, none⟩) m.length m.length)
        go_wp2
        go_roundw
        case rel => exact ⟨s + 1, _, by omega, by go_num, hrow, hBs⟩
        case measure => simp [intOf]; omega
      · obtain rfl : s = m.length := by omega
        have hss : ¬ ((m.length : Nat) : Int) < m.length := by omega
        have hT2 : BTb wr w5.heap.size w5.heap.size m.length m.length B (apT (AP.take 0)) := HT.out.congr (fun a b _ _ => by simp [apT])
        have HT2 := hid hT2
        have HB2 := hid hB
        clear HT hT2 hB
        go_wp2_with fail
        go_loopw [13] (fun iv wr => ∃ i : Nat, i ≤ AP.length ∧ iv = .int .i64 i ∧ BTb wr w5.heap.size w5.heap.size m.length m.length B (apT (AP.take i)) ∧ Below w5.heap.size w5 wr) (fun iv _ => AP.length - (intOf iv).toNat)
        case atStart => exact ⟨0, Nat.zero_le _, rfl, HT2.out, HB2.out⟩
        case round =>
          clear HT2 HB2 cr
          obtain ⟨i, hi', rfl, hTb, hB⟩ := hrel
          have cr := (hB.cell (p := ⟨w.heap.size, 0, none⟩) HltZ.out).trans cZ
          have HT := hid hTb
          clear hTb
          by_cases hil : i < AP.length
          · have his : (i : Int) < AP.length := by omega
            have hLi := List.getElem?_eq_getElem hil
            obtain ⟨gp, cp, hgp⟩ := ownsRow_pos' HO.out (by omega)
            simp only [Value.slice.injEq] at hgp
            obtain ⟨rfl, -, rfl⟩ := hgp
            obtain ⟨c1, c2⟩ := pair_cells HO.out hLi
            have hgl := World.block_lt_of_cell? _ _ c1
            have d1 := (hB.cell (p := ⟨gp, i * 2, none⟩) (World.block_lt_of_cell? _ _ c1)).trans c1
            have d2 := (hB.cell (p := ⟨gp, i * 2 + 1, none⟩) (World.block_lt_of_cell? _ _ c2)).trans c2
            have hin := hmem.out _ (List.getElem_mem hil)
            have hsn := hid (show AP.take (i + 1) = AP.take i ++ [AP[i]] from List.take_succ_eq_append_getElem hil)
            clear c1 c2 hLi
            generalize AP[i] = e0 at *
            obtain ⟨a, b⟩ := e0
            simp only at d1 d2 hin hgl
            obtain ⟨hab, hbn, -⟩ := hin
            have sa := hid (show stateM m (a : Int) = true by unfold stateM; exact inB_true ⟨by omega, by omega⟩)
            have sb := hid (show stateM m (b : Int) = true by unfold stateM; exact inB_true ⟨by omega, by omega⟩)
            have hge : decide ((b : Int) ≤ (a : Int)) = false := by simp; omega
            have hrr := hr.below (btr BZ.out hB)
            have la := later_cell cr
            have l1 := later_cell d1
            have l2 := later_cell d2
            go_wp2_with fail
            refine wp_region_later (by kernel_rfl) (by kernel_rfl) ?_
            repeat (go_big_quiet_step ((go_at_call 15; exact later_call (fun w' hb => rState_bool _ m _ true _ (hrr.below hb) (by first | exact sa.out | exact sb.out)))))
            refine wpQuiet_nil ?_
            intro z
            have hBz := btr hB z.below
            have HTz := hid (HT.out.below z.below)
            have d1z := l1 z
            have d2z := l2 z
            clear la l1 l2 cr d1 d2 HT hB hrr sa sb
            obtain ⟨y, hy⟩ : ∃ y, z.world = y := ⟨_, rfl⟩
            rw [hy] at hBz HTz d1z d2z ⊢
            clear hy
            have o1 := HTz.out.at (p := a) (by omega)
            have o2 := HTz.out.at (p := b) (by omega)
            have t1 := HTz.out.bit (p := a) (q := b) (by omega) (by omega)
            have t2 := HTz.out.bit (p := b) (q := a) (by omega) (by omega)
            have f1 := HTz.out.free (p := a) (by omega) b
            have f2 := HTz.out.free (p := b) (by omega) a
            have n1 : ¬ B a = B b := fun e => by have := HTz.out.inj a b (by omega) (by omega) e; omega
            have g1 := HTz.out.apart a (by omega)
            have g2 := HTz.out.apart b (by omega)
            have q1 := HTz.out.ge (p := a) (by omega)
            have q2 := HTz.out.ge (p := b) (by omega)
            have ha0 : (a : Int) < m.length := by omega
            have hb0 : (b : Int) < m.length := by omega
            have N1 := hid (show gp ≠ B a ∧ gp ≠ B a ∧ w5.heap.size ≠ B a ∧ w5.heap.size ≠ B a from ⟨by omega, by omega, g1, g1⟩)
            have N2 := hid (show gp ≠ B b ∧ gp ≠ B b ∧ w5.heap.size ≠ B b ∧ w5.heap.size ≠ B b from ⟨by omega, by omega, g2, g2⟩)
            generalize apT (AP.take i) a b = x1 at *
            generalize apT (AP.take i) b a = x2 at *
            have H4 := hid (show y.cell? ⟨gp, i * 2, none⟩ = some (.int .i64 a) ∧ y.cell? ⟨gp, i * 2 + 1, none⟩ = some (.int .i64 b) ∧ y.cell? ⟨w5.heap.size, a, none⟩ = some (.slice (some ⟨B a, 0, none⟩) m.length m.length) ∧ y.cell? ⟨w5.heap.size, b, none⟩ = some (.slice (some ⟨B b, 0, none⟩) m.length m.length) from ⟨d1z, d2z, o1, o2⟩)
            have ha1 : (0 : Int) ≤ (a : Int) := by omega
            have hb1 : (0 : Int) ≤ (b : Int) := by omega
            have hi1 : (0 : Int) ≤ (i : Int) := by omega
            go_wp2_with fail
            go_region_held3 (fun w' => w'.cell? ⟨gp, i * 2, none⟩ = some (.int .i64 a) ∧ w'.cell? ⟨gp, i * 2 + 1, none⟩ = some (.int .i64 b) ∧ w'.cell? ⟨w5.heap.size, a, none⟩ = some (.slice (some ⟨B a, 0, none⟩) m.length m.length) ∧ w'.cell? ⟨w5.heap.size, b, none⟩ = some (.slice (some ⟨B b, 0, none⟩) m.length m.length)) (first | exact H4.out | exact held4_set (a1 := ⟨gp, i * 2, none⟩) (a2 := ⟨gp, i * 2 + 1, none⟩) (a3 := ⟨w5.heap.size, a, none⟩) (a4 := ⟨w5.heap.size, b, none⟩) N1.out (by assumption) | exact held4_set (a1 := ⟨gp, i * 2, none⟩) (a2 := ⟨gp, i * 2 + 1, none⟩) (a3 := ⟨w5.heap.size, a, none⟩) (a4 := ⟨w5.heap.size, b, none⟩) N2.out (by assumption)) (fail)
            have hS := ((HTz.out.set (p := a) (q := b) (by omega) true).set (p := b) (q := a) (by omega) true).congr (e := apT (AP.take (i + 1))) (fun c d _ _ => by rw [hsn.out, apT_snoc])
            have hBs := ((hBz.setCell (p := ⟨B a, b, none⟩) q1.1 (.bool true)).setCell (p := ⟨B b, a, none⟩) q2.1 (.bool true))
            have HS := hid (hS.below (below_dr _ 1))
            have HBs := hid (bdr hBs 1)
            clear hS hBs HTz hBz d1z d2z o1 o2 t1 t2 f1 f2 q1 q2 N1 N2 H4 hsn
            go_wp2
            go_roundw
            case rel => exact ⟨i + 1, by omega, by go_num, HS.out, HBs.out⟩
            case measure => simp [intOf]; omega
          · obtain rfl : i = AP.length := by omega
            have his : ¬ ((AP.length : Nat) : Int) < AP.length := by omega
            have hTf := HT.out
            rw [List.take_length] at hTf
            have HTF := hid hTf
            have HBo := hid hB
            obtain ⟨wo, rfl⟩ : ∃ wo : World, wo = wr := ⟨_, rfl⟩
            have co := hid cr
            clear HT hTf hB cr
            go_wp2_with fail
            go_loopw [14] (fun jv wr => ∃ j : Nat, j ≤ AP.length ∧ jv = .int .i64 j ∧ Below wo.heap.size wo wr) (fun jv _ => AP.length - (intOf jv).toNat)
            case atStart => exact ⟨0, Nat.zero_le _, rfl, Below.refl _ _⟩
            case round =>
              obtain ⟨j, hj', rfl, hB⟩ := hrel
              by_cases hjl : j < AP.length
              · have hjs : (j : Int) < AP.length := by omega
                obtain ⟨gp, cp, hgp⟩ := ownsRow_pos' HO.out (by omega)
                simp only [Value.slice.injEq] at hgp
                obtain ⟨rfl, -, rfl⟩ := hgp
                obtain ⟨k1, k2⟩ := pair_cells HO.out (List.getElem?_eq_getElem hjl)
                have d1 := (HBo.out.cell (p := ⟨gp, j * 2, none⟩) (World.block_lt_of_cell? _ _ k1)).trans k1
                have d2 := (HBo.out.cell (p := ⟨gp, j * 2 + 1, none⟩) (World.block_lt_of_cell? _ _ k2)).trans k2
                have hin := hmem.out _ (List.getElem_mem hjl)
                have hst := hid (hstep.out _ (List.getElem_mem hjl))
                clear k1 k2
                generalize AP[j] = e0 at *
                obtain ⟨a, b⟩ := e0
                simp only at d1 d2 hin hst
                obtain ⟨hab, hbn, -⟩ := hin
                obtain ⟨wj, rfl⟩ : ∃ wj : World, wj = wr := ⟨_, rfl⟩
                have HBj := hid hB
                clear hB
                go_wp2_with fail
                go_loopw [15] (fun xv wr => ∃ x : Nat, x ≤ letters m ∧ xv = .int .i64 x ∧ Below wo.heap.size wo wr) (fun xv _ => letters m - (intOf xv).toNat)
                case atStart => exact ⟨0, Nat.zero_le _, rfl, HBj.out⟩
                case round =>
                  obtain ⟨x, hx, rfl, hB⟩ := hrel
                  have cr := (hB.cell (p := ⟨w.heap.size, 0, none⟩) (World.block_lt_of_cell? _ _ co.out)).trans co.out
                  have hrr := hr.below (btr (btr BZ.out HBo.out) hB)
                  go_wp2_with fail
                  refine (rLetters_any _ m _ hrr hv).mono ?_
                  rintro e y1 ⟨rfl, hy1⟩
                  have hBy := btr hB hy1
                  have cry := (hy1.cell (p := ⟨w.heap.size, 0, none⟩) (World.block_lt_of_cell? _ _ cr)).trans cr
                  clear cr hrr hy1 hB
                  by_cases hxl : x < letters m
                  · have hxs : (x : Int) < letters m := by omega
                    have Hall := hid (btr hX (btr (btr BZ.out HBo.out) hBy))
                    obtain ⟨bl, off, r, hA, hcell, hrow⟩ := Hcm.out a (by omega)
                    subst hA
                    obtain ⟨bl2, off2, rq, hA2, hcellq, hrowq⟩ := Hcm.out b hbn
                    simp only [Option.some.injEq, Addr.mk.injEq, and_true] at hA2
                    obtain ⟨rfl, rfl⟩ := hA2
                    have hrl := (Hp5.out a (by omega)).1
                    have hrlq := (Hp5.out b hbn).1
                    obtain ⟨Ar, capr, rfl, -, hcr⟩ := id hrow
                    obtain ⟨Aq, capq, rfl, -, hcq⟩ := id hrowq
                    rw [hrl] at hcell
                    rw [hrlq] at hcellq
                    obtain ⟨br, offr, hAr, hct⟩ := hcr x (by omega)
                    obtain ⟨bq, offq, hAq, hctq⟩ := hcq x (by omega)
                    subst hAr
                    subst hAq
                    obtain ⟨hn1, hn⟩ := nx_ok hv (s := a) (by omega) (x := (x : Int)) (by omega) (by omega)
                    obtain ⟨hq1, hqn⟩ := nx_ok hv (s := b) hbn (x := (x : Int)) (by omega) (by omega)
                    rw [Int.toNat_natCast] at hn hqn
                    rw [hn] at hct
                    rw [hqn] at hctq
                    have hbit := hst.out x hxl
                    have e1 := (Hall.out.cell (p := ⟨bl, off + a, none⟩) (World.block_lt_of_cell? _ _ hcell)).trans hcell
                    have e2 := (Hall.out.cell (p := ⟨bl, off + b, none⟩) (World.block_lt_of_cell? _ _ hcellq)).trans hcellq
                    have e3 := (Hall.out.cell (p := ⟨br, offr + x, none⟩) (World.block_lt_of_cell? _ _ hct)).trans hct
                    have e4 := (Hall.out.cell (p := ⟨bq, offq + x, none⟩) (World.block_lt_of_cell? _ _ hctq)).trans hctq
                    have e5 := (hBy.cell (p := ⟨gp, j * 2, none⟩) (World.block_lt_of_cell? _ _ d1)).trans d1
                    have e6 := (hBy.cell (p := ⟨gp, j * 2 + 1, none⟩) (World.block_lt_of_cell? _ _ d2)).trans d2
                    have hTy := HTF.out.below hBy
                    clear hcell hcellq hct hctq hcr hcq hrow hrowq hn hqn hrl hrlq d1 d2
                    generalize nx m a (x : Int) = s1 at *
                    generalize nx m b (x : Int) = s2 at *
                    have t1 := hTy.at hn1
                    have t2 := hTy.bit hn1 hq1
                    rw [hbit] at t2
                    have i1 : (a : Int) < m.length := by omega
                    have i2 : (b : Int) < m.length := by omega
                    have i3 : (s1 : Int) < m.length := by omega
                    have i4 : (s2 : Int) < m.length := by omega
                    clear hTy hbit
                    go_wp2_with fail
                    go_quiet (fail)
                    go_wp2
                    go_roundw
                    case rel => exact ⟨x + 1, by omega, by go_num, bdr hBy nq⟩
                    case measure => simp [intOf]; omega
                  · obtain rfl : x = letters m := by omega
                    have hxs : ¬ ((letters m : Nat) : Int) < letters m := by omega
                    go_wp2_with fail
                    go_roundw
                    case rel => exact ⟨j + 1, by omega, by go_num, hBy⟩
                    case measure => simp [intOf]; omega
              · obtain rfl : j = AP.length := by omega
                have hjs : ¬ ((AP.length : Nat) : Int) < AP.length := by omega
                have HBr := hid (btr (btr BZ.out HBo.out) hB)
                have cr := (hB.cell (p := ⟨w.heap.size, 0, none⟩) (World.block_lt_of_cell? _ _ co.out)).trans co.out
                have HTr := hid (HTF.out.below hB)
                clear hB
                go_wp2_with fail
                refine (Merge_res _ m p q c u _ (hr.below HBr.out) hv hp hq hres).mono ?_
                rintro e y ⟨uA, uk, rfl, -, hy⟩
                have hTy := HTr.out.below hy
                have BY := hid (btr HBr.out hy)
                have t1 := hTy.at hp
                have t2 := hTy.bit hp hq
                have i1 : (p : Int) < m.length := by omega
                have i2 : (q : Int) < m.length := by omega
                clear hTy HTr hy cr
                rcases hcode.out with ⟨rfl, hb⟩ | ⟨rfl, hb⟩
                · rw [hb] at t2
                  clear hb
                  go_wp2_with fail
                  refine (awake3_any _ (hTX.on BY.out)).mono ?_
                  rintro e w9 ⟨rfl, h9⟩
                  go_wp2
                  go_ret
                  exact ⟨rfl, btr hX (btr BY.out h9)⟩
                · rw [hb] at t2
                  clear hb
                  go_wp2_with fail
                  refine (awake3_any _ (hTX.on BY.out)).mono ?_
                  rintro e w9 ⟨rfl, h9⟩
                  go_wp2
                  go_ret
                  exact ⟨rfl, btr hX (btr BY.out h9)⟩
theorem resetClosed_any (v : Value) (m : List (List Int)) (p q : Int) (w : World) (hT : Tab w) (h : Rows w v m) :
    Calls Tryd.prog 5 #[.agg #[v], .int .i64 p, .int .i64 q] w fun e w' => e = .returned (.bool true) ∧ Below w.heap.size w w' := by
  cases hbad : (validM m && (stateM m p && stateM m q)) with
  | false => exact closed_form v m p q w hT h hbad
  | true =>
    simp only [Bool.and_eq_true] at hbad
    obtain ⟨hv, hsp, hsq⟩ := hbad
    obtain ⟨pn, rfl, hp⟩ := state_nat hsp
    obtain ⟨qn, rfl, hq⟩ := state_nat hsq
    obtain ⟨c, u, hr⟩ := mergeRes_some hv hp hq
    by_cases ha : allMerge m
    · exact closed_walk v m pn qn 0 c u w hT h hv hp hq (hid (.inl ⟨ha, rfl⟩)) (hid hr)
    · exact closed_walk v m pn qn 4 c u w hT h hv hp hq (hid (.inr ⟨ha, rfl⟩)) (hid hr)
end Go.Proofs.YtmfbcnigefjgpaaDoor
