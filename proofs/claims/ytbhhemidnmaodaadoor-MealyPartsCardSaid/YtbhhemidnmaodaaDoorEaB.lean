/-
  Texts that the proof of the law stands on: A6, N21, Q1, N24, Q11, D1, D2, Q4, Q9, Map, D3, E6, N4, PairEq, F1, L2, Tb, E1, G5, H4, Y40, Y41, Lanes, A7, A12, A13, A14, Z28, A15, A16.
-/
import Derived.Test.YtbhhemidnmaodaaDoorEaA
import Derived.RegionTactic
import Derived.Maps.Own
import Derived.Maps.OwnOps
import Derived.Maps.OwnSet
import Derived.Maps.Views
import Derived.Test.YtbhhemidnmaodaaDoorProg
import Derived.Maps.OwnIn
import Derived.ChangeKeysEq
import Derived.Laws.StructEq
import Derived.Maps.AppendAt
import Derived.Laws.AppendOwnNone
import Derived.WideKeyPair
import Derived.Maps.Keyed
import Derived.Deep.AppendLies
import Derived.Deep.RegionLaw
import Derived.Laws.EntriesVeiled
import Derived.Deep.CutRange
set_option linter.unusedVariables false
set_option linter.unusedSimpArgs false
namespace Go.Proofs.YtbhhemidnmaodaaDoor
open Go.RowKit Go.Shelf
set_option maxRecDepth 100000 in
set_option maxHeartbeats 2000000 in
theorem textY_any (v u : Value) (m o : List (List Int)) (w : World) (h : Rows w v m) (k : Rows w u o) (hv : validY m o = true) :
    Calls Tryd.prog 45 #[.agg #[v, u]] w fun e w' => e = .returned (.string (strB (textY m o))) ∧ Below w.heap.size w w' := by
  obtain ⟨i0, hi, hz0, hz1, hz2⟩ := info_parts infoStr
  have hRy := rowsY hv
  obtain ⟨p1, p2, p3, p4, p6, p5⟩ := id hRy
  have P5 := hid p5
  have HRy := hid hRy
  have P6 := hid p6
  clear p5 hRy p6
  obtain ⟨B, cbp, rfl, hol, hco⟩ := k
  have Hco := hid hco
  clear hco
  obtain ⟨A, cap, rfl, hml, hc⟩ := h
  obtain ⟨b, off, r0, hA, hcell0, hr0⟩ := hc 0 (by omega)
  subst hA
  clear hr0
  have hbl : b < w.heap.size := World.block_lt_of_cell? _ _ hcell0
  have Hc := hid hc
  clear hc hcell0
  go_enter Tryd.func45, Tryd.ntmps45
  go_wp2_with (at_make; refine wpList_make_full _ rfl _ _ 77 rfl (w.heap.size + 1) 9 i0 (.string ⟨#[]⟩) 1 Tryd.underlying77 hi hz0 hz1 .i64 .i64 _ _ m.length rfl rfl rfl rfl (by rw [hz2]; omega) (by unfold maxLen; omega) (by simp) ?_; intro w1 hown hgrow; have hb1 := hid ((Below.refl (w.heap.size + 1) _).grown hgrow (by simp) (fun k e => by cases e)); have hbx : w1.cell? ⟨w.heap.size, 0, none⟩ = some (.slice (some ⟨b, off, none⟩) m.length cap) := (hb1.out.cell (by simp)).trans (by simp); have hbo : w1.cell? ⟨w.heap.size, 1, none⟩ = some (.slice B o.length cbp) := (hb1.out.cell (by simp)).trans (by simp); have hb : Below w.heap.size w w1 := (bal (Below.refl _ _) _).trans (hb1.out.mono (by omega)); have hsz1 : w.heap.size + 1 ≤ w1.heap.size := by { have := hb1.out.size; simpa using this }; have hown1 : w1.ownsRow (w.heap.size + 1) 9 1 (.slice (some ⟨w.heap.size + 1, 0, none⟩) m.length m.length) m.length (someStr m.length 0 fun i => rowY (m.getD i []) (o.getD i [])) := (by have h := hown; rw [show Value.cells (.string ⟨#[]⟩) = #[.string ⟨#[]⟩] from rfl, someStr_made m.length fun i => rowY (m.getD i []) (o.getD i [])] at h; simpa using h); clear hown hgrow)
  go_loopw [16] (fun i wr => ∃ k : Nat, k ≤ m.length ∧ i = .int .i64 k ∧ Below (w.heap.size + 1) w1 wr ∧ wr.ownsRow (w.heap.size + 1) 9 1 (.slice (some ⟨w.heap.size + 1, 0, none⟩) m.length m.length) m.length (someStr m.length k fun i => rowY (m.getD i []) (o.getD i []))) (fun i _ => m.length - (intOf i).toNat)
  case atStart => exact ⟨0, Nat.zero_le _, rfl, Below.refl _ _, hown1⟩
  case round =>
    obtain ⟨k, hk, rfl, hB, hown⟩ := hrel
    by_cases hlt : k < m.length
    · obtain ⟨b', off', r, hA', hcell, hrow⟩ := Hc.out k hlt
      cases hA'
      have hBw : Below w.heap.size w wr := hb.trans (hB.mono (Nat.le_succ _))
      have hrowc : wr.cell? ⟨b, off + k, none⟩ = some r := (hBw.cell (p := ⟨b, off + k, none⟩) hbl).trans hcell
      have hroww := hrow.below hBw
      have Hh := hid hrow
      clear hrow hcell
      obtain ⟨Ar, capr, rfl, hlr, hcr⟩ := hroww
      obtain ⟨bo, oo, ro, rfl, hcello, hrowo⟩ := Hco.out k (by rw [P6.out]; exact hlt)
      have hrowoc : wr.cell? ⟨bo, oo + k, none⟩ = some ro := (hBw.cell (p := ⟨bo, oo + k, none⟩) (World.block_lt_of_cell? _ _ hcello)).trans hcello
      obtain ⟨Aro, capro, rfl, hlro, hcro⟩ := hrowo.below hBw
      clear hcello hrowo
      have hrl := (P5.out k hlt).1
      have hrlo := (P5.out k hlt).2.1
      have hrb := hid (P5.out k hlt).2.2
      have Hlen := hid (rowY_len HRy.out hlt)
      generalize hrwo : o.getD k [] = rowo at *
      generalize hrw : m.getD k [] = row at *
      have Hcro := hid hcro
      have Hrwo := hid hrwo
      have Hrowo := hid hrowoc
      clear hcro hrwo hrowoc
      have Hcr := hid hcr
      have Hrw := hid hrw
      clear hcr hrw
      have hsz : w.heap.size + 1 ≤ wr.heap.size := Nat.le_trans hsz1 hB.size
      obtain ⟨wo, rfl⟩ : ∃ wo : World, wo = wr := ⟨_, rfl⟩
      go_wp2_with (at_make; refine wpList_make_full _ rfl _ _ 77 rfl wo.heap.size 9 i0 (.string ⟨#[]⟩) 1 Tryd.underlying77 hi hz0 hz1 .i64 .i64 _ _ (letters m) rfl rfl rfl rfl (by rw [hz2]; omega) (by unfold maxLen; omega) (by simp) ?_; intro w2 hown2 hgrow2; have hb2 := (Below.refl wo.heap.size wo).grown hgrow2 (Nat.le_refl _) (fun k e => by cases e); have hown3 : w2.ownsRow wo.heap.size 9 1 (.slice (some ⟨wo.heap.size, 0, none⟩) (letters m) (letters m)) (letters m) (someStr (letters m) 0 fun j => letY (row.getD j 0) (rowo.getD j 0)) := (by have h := hown2; rw [show Value.cells (.string ⟨#[]⟩) = #[.string ⟨#[]⟩] from rfl, someStr_made (letters m) fun j => letY (row.getD j 0) (rowo.getD j 0)] at h; exact h); clear hown2 hgrow2)
      go_loopw [26] (fun i wi => ∃ x : Nat, x ≤ letters m ∧ i = .int .i64 x ∧ Below wo.heap.size wo wi ∧ wi.ownsRow wo.heap.size 9 1 (.slice (some ⟨wo.heap.size, 0, none⟩) (letters m) (letters m)) (letters m) (someStr (letters m) x fun j => letY (row.getD j 0) (rowo.getD j 0))) (fun i _ => letters m - (intOf i).toNat)
      case atStart => exact ⟨0, Nat.zero_le _, rfl, hb2, hown3⟩
      case round =>
        obtain ⟨x, hx, rfl, hB2, hown2⟩ := hrel
        by_cases hxl : x < letters m
        · obtain ⟨br, offr, hAr, hcellr⟩ := Hcr.out x (by rw [hrl]; exact hxl)
          subst hAr
          obtain ⟨bq, offq, hAq, hcellq⟩ := Hcro.out x (by rw [hrlo]; exact hxl)
          subst hAq
          have hbrl : br < wo.heap.size := World.block_lt_of_cell? _ _ hcellr
          have hbql : bq < wo.heap.size := World.block_lt_of_cell? _ _ hcellq
          have hcellx : wr.cell? ⟨br, offr + x, none⟩ = some (.int .i64 (row.getD x 0)) := (hB2.cell (p := ⟨br, offr + x, none⟩) hbrl).trans hcellr
          have hcely : wr.cell? ⟨bq, offq + x, none⟩ = some (.int .i64 (rowo.getD x 0)) := (hB2.cell (p := ⟨bq, offq + x, none⟩) hbql).trans hcellq
          have hboxo : wr.cell? ⟨w.heap.size, 1, none⟩ = some (.slice (some ⟨bo, oo, none⟩) o.length cbp) := (hB2.cell (p := ⟨w.heap.size, 1, none⟩) (by show w.heap.size < _; omega)).trans ((hB.cell (p := ⟨w.heap.size, 1, none⟩) (by show w.heap.size < _; omega)).trans hbo)
          have hrowo1 : wr.cell? ⟨bo, oo + k, none⟩ = some (.slice (some ⟨bq, offq, none⟩) rowo.length capro) := (hB2.cell (p := ⟨bo, oo + k, none⟩) (World.block_lt_of_cell? _ _ Hrowo.out)).trans Hrowo.out
          obtain ⟨hdig, hdio⟩ := hrb.out x hxl
          obtain ⟨q, hq⟩ : ∃ q : Nat, row.getD x 0 = q := ⟨(row.getD x 0).toNat, by have := hdig.1; omega⟩
          obtain ⟨qo, hqo⟩ : ∃ q : Nat, rowo.getD x 0 = q := ⟨(rowo.getD x 0).toNat, by have := hdio.1; omega⟩
          have hq100 : q < 100 := by have := hdig.2; omega
          have hqo100 : qo < 100 := by have := hdio.2; omega
          have Hq := hid hq
          have Hqo := hid hqo
          rw [hq] at hcellx
          rw [hqo] at hcely
          clear hcellr hcellq hdig hdio hq hqo
          have hle : (letY (q : Int) (qo : Int)) = (Lib.decDigits q ++ [47]) ++ Lib.decDigits qo := by simp [letY]
          have d1 := dec_len q hq100
          have d2 := dec_len qo hqo100
          have hce : wr.cell? ⟨wo.heap.size, x, none⟩ = some (.string ⟨#[]⟩) := by rw [hown2.cellAt x (by omega)]; simp [someStr, hxl]
          have hfz := hown2.frozenAt x
          have hgl2 : wo.heap.size < wr.heap.size := owns_lt hown2
          have hks : (k : Int) < o.length := by rw [P6.out]; omega
          have hxs : (x : Int) < letters m := by omega
          have hxs2 : (x : Int) < rowo.length := by omega
          rw [hrlo] at hrowo1
          have Hown2 := hid hown2
          have HB2 := hid hB2
          clear hown2 hB2
          go_upto_region 9 with fail
          refine wp_region_one (c := fun i => ([(.slice (some ⟨wo.heap.size, 0, none⟩) (letters m) (letters m)), .int .i64 x, .int .i64 q, .string (strB (Lib.decDigits q)), .string (strB (Lib.decDigits q ++ [47])), .pointer (some ⟨w.heap.size, 1, none⟩), .slice (some ⟨bo, oo, none⟩) o.length cbp, .int .i64 k, .pointer (some ⟨bo, oo + k, none⟩), .slice (some ⟨bq, offq, none⟩) (letters m) capro, .int .i64 x, .pointer (some ⟨bq, offq + x, none⟩), .int .i64 qo, .string (strB (Lib.decDigits qo)), .string (strB ((Lib.decDigits q ++ [47]) ++ Lib.decDigits qo)), .pointer (some ⟨wo.heap.size, x, none⟩), undef] : List Value).getD i undef) (R := fun W => Below wr.heap.size wr W) (S := fun W' => ∃ W, Below wr.heap.size wr W ∧ W' = W.setCell ⟨wo.heap.size, x, none⟩ (.string (strB ((Lib.decDigits q ++ [47]) ++ Lib.decDigits qo)))) 16 rfl (by kernel_rfl) (by kernel_rfl) (by kernel_rfl) (by kernel_rfl) (by kernel_rfl) (by kernel_rfl) ?_ ?_ ?_
          · exact below_dr wr 1
          · refine ⟨?_, ?_, ?_, ?_, ?_, ?_, ?_, ?_, ?_, ?_, ?_, ?_, ?_, ?_, ?_, ?_, ?_, trivial⟩
            · intro F W hR hold hnew
              have f6 : F.eval (.tmp 6) = (.slice (some ⟨wo.heap.size, 0, none⟩) (letters m) (letters m)) := (hold 6 (by kernel_rfl)).trans (by kernel_rfl)
              simp [Act.eval] at f6
              rw [if_neg (by decide)]
              exact opv_run rfl W (by simp [execOp, go_sem, f6]) hR
            · intro F W hR hold hnew
              have f7 : F.eval (.tmp 7) = .int .i64 x := (hold 7 (by kernel_rfl)).trans (by kernel_rfl)
              simp [Act.eval] at f7
              rw [if_neg (by decide)]
              exact opv_run rfl W (by simp [execOp, go_sem, f7]) hR
            · intro F W hR hold hnew
              have f8 : F.eval (.tmp 8) = .int .i64 q := (hold 8 (by kernel_rfl)).trans (by kernel_rfl)
              simp [Act.eval] at f8
              rw [if_neg (by decide)]
              exact opv_run rfl W (by simp [execOp, go_sem, f8]) hR
            · intro F W hR hold hnew
              have f33 : F.eval (.tmp 33) = .int .i64 q := hnew 2 33 (by kernel_rfl) (by kernel_rfl)
              simp [Act.eval] at f33
              rw [if_neg (by decide)]
              exact opv_call rfl 58 #[.int .i64 (q : Nat)] (by simp [execOp, go_sem, f33]) ((Tryd.strconv_Itoa_small q hq100 W).mono (by rintro e w9 ⟨rfl, rfl⟩; exact ⟨rfl, hR⟩))
            · intro F W hR hold hnew
              have f34 : F.eval (.tmp 34) = .string (strB (Lib.decDigits q)) := hnew 3 34 (by kernel_rfl) (by kernel_rfl)
              simp [Act.eval] at f34
              have hadd := str_addc (w := W) (Lib.decDigits q) 47 (by omega)
              rw [if_neg (by decide)]
              exact opv_run rfl W (by simp [execOp, go_sem, f34, hadd]) hR
            · intro F W hR hold hnew
              have f1 : F.eval (.tmp 1) = .pointer (some ⟨w.heap.size, 0, none⟩) := (hold 1 (by kernel_rfl)).trans (by kernel_rfl)
              simp [Act.eval] at f1
              rw [if_neg (by decide)]
              exact opv_run rfl W (by simp [execOp, go_sem, f1]) hR
            · intro F W hR hold hnew
              have f36 : F.eval (.tmp 36) = .pointer (some ⟨w.heap.size, 1, none⟩) := hnew 5 36 (by kernel_rfl) (by kernel_rfl)
              simp [Act.eval] at f36
              have q0 := (hR.cell (p := ⟨w.heap.size, 1, none⟩) (World.block_lt_of_cell? _ _ hboxo)).trans hboxo
              rw [if_neg (by decide)]
              exact opv_run rfl W (by simp [execOp, go_sem, f36, q0]) hR
            · intro F W hR hold hnew
              have f4 : F.eval (.tmp 4) = .int .i64 k := (hold 4 (by kernel_rfl)).trans (by kernel_rfl)
              simp [Act.eval] at f4
              rw [if_neg (by decide)]
              exact opv_run rfl W (by simp [execOp, go_sem, f4]) hR
            · intro F W hR hold hnew
              have f37 : F.eval (.tmp 37) = .slice (some ⟨bo, oo, none⟩) o.length cbp := hnew 6 37 (by kernel_rfl) (by kernel_rfl)
              have f38 : F.eval (.tmp 38) = .int .i64 k := hnew 7 38 (by kernel_rfl) (by kernel_rfl)
              simp [Act.eval] at f37 f38
              rw [if_neg (by decide)]
              exact opv_run rfl W (by simp [execOp, go_sem, f37, f38, hks]) hR
            · intro F W hR hold hnew
              have f39 : F.eval (.tmp 39) = .pointer (some ⟨bo, oo + k, none⟩) := hnew 8 39 (by kernel_rfl) (by kernel_rfl)
              simp [Act.eval] at f39
              have q0 := (hR.cell (p := ⟨bo, oo + k, none⟩) (World.block_lt_of_cell? _ _ hrowo1)).trans hrowo1
              rw [if_neg (by decide)]
              exact opv_run rfl W (by simp [execOp, go_sem, f39, q0]) hR
            · intro F W hR hold hnew
              have f7 : F.eval (.tmp 7) = .int .i64 x := (hold 7 (by kernel_rfl)).trans (by kernel_rfl)
              simp [Act.eval] at f7
              rw [if_neg (by decide)]
              exact opv_run rfl W (by simp [execOp, go_sem, f7]) hR
            · intro F W hR hold hnew
              have f40 : F.eval (.tmp 40) = .slice (some ⟨bq, offq, none⟩) (letters m) capro := hnew 9 40 (by kernel_rfl) (by kernel_rfl)
              have f41 : F.eval (.tmp 41) = .int .i64 x := hnew 10 41 (by kernel_rfl) (by kernel_rfl)
              simp [Act.eval] at f40 f41
              rw [if_neg (by decide)]
              exact opv_run rfl W (by simp [execOp, go_sem, f40, f41, hxs]) hR
            · intro F W hR hold hnew
              have f42 : F.eval (.tmp 42) = .pointer (some ⟨bq, offq + x, none⟩) := hnew 11 42 (by kernel_rfl) (by kernel_rfl)
              simp [Act.eval] at f42
              have q0 := (hR.cell (p := ⟨bq, offq + x, none⟩) (World.block_lt_of_cell? _ _ hcely)).trans hcely
              rw [if_neg (by decide)]
              exact opv_run rfl W (by simp [execOp, go_sem, f42, q0]) hR
            · intro F W hR hold hnew
              have f43 : F.eval (.tmp 43) = .int .i64 qo := hnew 12 43 (by kernel_rfl) (by kernel_rfl)
              simp [Act.eval] at f43
              rw [if_neg (by decide)]
              exact opv_call rfl 58 #[.int .i64 (qo : Nat)] (by simp [execOp, go_sem, f43]) ((Tryd.strconv_Itoa_small qo hqo100 W).mono (by rintro e w9 ⟨rfl, rfl⟩; exact ⟨rfl, hR⟩))
            · intro F W hR hold hnew
              have f35 : F.eval (.tmp 35) = .string (strB (Lib.decDigits q ++ [47])) := hnew 4 35 (by kernel_rfl) (by kernel_rfl)
              have f44 : F.eval (.tmp 44) = .string (strB (Lib.decDigits qo)) := hnew 13 44 (by kernel_rfl) (by kernel_rfl)
              simp [Act.eval] at f35 f44
              have hadd := str_add (w := W) (Lib.decDigits q ++ [47]) (Lib.decDigits qo) (by simp; omega)
              rw [if_neg (by decide)]
              exact opv_run rfl W (by simp [execOp, go_sem, f35, f44, hadd]) hR
            · intro F W hR hold hnew
              have f31 : F.eval (.tmp 31) = (.slice (some ⟨wo.heap.size, 0, none⟩) (letters m) (letters m)) := hnew 0 31 (by kernel_rfl) (by kernel_rfl)
              have f32 : F.eval (.tmp 32) = .int .i64 x := hnew 1 32 (by kernel_rfl) (by kernel_rfl)
              simp [Act.eval] at f31 f32
              rw [if_neg (by decide)]
              exact opv_run rfl W (by simp [execOp, go_sem, f31, f32, hxs]) hR
            · intro F W hR hold hnew
              have f46 : F.eval (.tmp 46) = .pointer (some ⟨wo.heap.size, x, none⟩) := hnew 15 46 (by kernel_rfl) (by kernel_rfl)
              have f45 : F.eval (.tmp 45) = .string (strB ((Lib.decDigits q ++ [47]) ++ Lib.decDigits qo)) := hnew 14 45 (by kernel_rfl) (by kernel_rfl)
              simp [Act.eval] at f46 f45
              have q0 := (hR.cell (p := ⟨wo.heap.size, x, none⟩) (World.block_lt_of_cell? _ _ hce)).trans hce
              have q1 := World.ownsRow.frozenAt (owns_below Hown2.out hR hgl2) x
              rw [if_pos rfl]
              exact ⟨rfl, _, by simp [execOp, go_sem, f46, f45, q0, q1], W, hR, rfl⟩
          · rintro W' ⟨W, hbW, rfl⟩
            simp only [framedFrom, Act.put, List.setIfInBounds_toArray, List.set_cons_succ, List.set_cons_zero]
            have ⟨hst1, hst2⟩ := World.ownsRow.stored (owns_below Hown2.out hbW hgl2) x (.string (strB ((Lib.decDigits q ++ [47]) ++ Lib.decDigits qo)))
            go_wp2_with fail
            go_roundw
            case rel =>
              refine ⟨x + 1, by omega, by go_num, (HB2.out.trans (hbW.mono (Nat.le_of_lt hgl2))).setCell (Nat.le_refl _) _, ?_⟩
              rw [← someStr_set _ _ _ hxl, Hq.out, Hqo.out, hle]
              have e9 : (Lib.decDigits q ++ [47]) ++ Lib.decDigits qo = Lib.decDigits q ++ 47 :: Lib.decDigits qo := by simp
              rw [e9] at hst1 ⊢
              exact hst1
            case measure => simp [intOf]; omega
        · obtain rfl : x = letters m := by omega
          have hgl : wo.heap.size < wr.heap.size := owns_lt hown2
          have hj : Calls Tryd.prog 59 #[.slice (some ⟨wo.heap.size, 0, none⟩) (letters m) (letters m), .string ⟨#[46]⟩] wr fun e w' => e = .returned (.string (strB (rowY row rowo))) ∧ Below wr.heap.size wr w' := by
            have h := join_row wr wo.heap.size wo.heap.size (letters m) _ ⟨#[46]⟩ hown2 (by omega) rfl (fun i hi => by have := (letY_sep (hrb.out i hi).1 (hrb.out i hi).2).2.2; omega) hgl
            have e : (List.range (letters m)).map (fun j => letY (row.getD j 0) (rowo.getD j 0)) = (List.range row.length).map fun j => letY (row.getD j 0) (rowo.getD j 0) := by rw [hrl]
            rw [e] at h
            exact h
          go_wp2_with fail
          refine hj.mono ?_
          rintro e w4 ⟨rfl, hb4⟩
          have hb04 : Below wo.heap.size wo w4 := hB2.trans (hb4.mono (Nat.le_of_lt hgl))
          have hol := owns_lt hown
          have hown4 := owns_below hown hb04 hol
          have hfz := hown4.frozenAt k
          have hce : w4.cell? ⟨w.heap.size + 1, k, none⟩ = some (.string ⟨#[]⟩) := by rw [hown4.cellAt k (by omega)]; simp [someStr, hlt]
          have ⟨hst1, hst2⟩ := hown4.stored k (.string (strB (rowY row rowo)))
          clear hown2
          go_wp2
          go_roundw
          case rel =>
            refine ⟨k + 1, by omega, by go_num, (hB.trans (hb04.mono hsz)).setCell (Nat.le_refl _) _, ?_⟩
            rw [← someStr_set _ _ _ hlt, Hrw.out, Hrwo.out]
            exact hst1
          case measure => simp [intOf]; omega
    · obtain rfl : k = m.length := by omega
      have hgl : w.heap.size + 1 < wr.heap.size := owns_lt hown
      have hj : Calls Tryd.prog 59 #[.slice (some ⟨w.heap.size + 1, 0, none⟩) m.length m.length, .string ⟨#[32]⟩] wr fun e w' => e = .returned (.string (strB (textY m o))) ∧ Below wr.heap.size wr w' := by
        exact join_row wr _ _ m.length _ ⟨#[32]⟩ hown (by omega) rfl (fun i hi => by have := rowY_len HRy.out hi; omega) hgl
      go_wp2_with fail
      refine hj.mono ?_
      rintro e w4 ⟨rfl, hb4⟩
      go_wp2
      go_ret
      exact ⟨rfl, (hb.trans (hB.mono (Nat.le_succ _))).trans (hb4.mono (by omega))⟩
end Go.Proofs.YtbhhemidnmaodaaDoor
namespace Go.Proofs.YtbhhemidnmaodaaDoor
open Go.RowKit Go.Shelf
/-- A slice of bools that reads as a list. -/
def Bools (w : World) (v : Value) (l : List Bool) : Prop :=
  ∃ A cap, v = .slice A l.length cap ∧ l.length ≤ big ∧ ∀ i, i < l.length → ∃ b off, A = some ⟨b, off, none⟩ ∧ w.cell? ⟨b, off + i, none⟩ = some (.bool (l.getD i false))
theorem Bools.below {w w' : World} {v : Value} {l : List Bool} (h : Bools w v l) (hb : Below w.heap.size w w') : Bools w' v l := by
  obtain ⟨A, cap, hv, hl, hc⟩ := h
  refine ⟨A, cap, hv, hl, fun i hi => ?_⟩
  obtain ⟨b, off, hA, hcell⟩ := hc i hi
  exact ⟨b, off, hA, (hb.cell (p := ⟨b, off + i, none⟩) (World.block_lt_of_cell? _ _ hcell)).trans hcell⟩
theorem Bools.of_own {W : World} {n₀ : Nat} {e : TypeId} {v : Value} {l : List Bool} (h : W.ownsRow n₀ e 1 v l.length (l.map fun x => .bool x)) (hl : l.length ≤ big) : Bools W v l := by
  rcases h.2 with ⟨rfl, h0⟩ | ⟨g, cap, cur, rfl, hb, hg, hn, hc, hs, ht⟩
  · exact ⟨none, 0, by rw [h0], hl, fun i hi => by omega⟩
  · refine ⟨some ⟨g, 0, none⟩, cap, rfl, hl, fun i hi => ⟨g, 0, rfl, ?_⟩⟩
    have h1 : (l.map fun x => Value.bool x)[i]? = some (.bool (l.getD i false)) := by
      simp [List.getElem?_map, List.getElem?_eq_getElem hi, List.getD_eq_getElem?_getD]
    rw [← ht, List.getElem?_take, if_pos (by omega)] at h1
    simp only [World.cell?, hg]
    simpa using h1
end Go.Proofs.YtbhhemidnmaodaaDoor
namespace Go.Proofs.YtbhhemidnmaodaaDoor
open Go.RowKit Go.Shelf
theorem ownq_lt {W : World} {base : Nat} {e : TypeId} {s : Nat} {g n c k : Nat} {xs : List Value} (h : W.ownsRow base e s (.slice (some ⟨g, 0, none⟩) n c) k xs) : base ≤ g ∧ g < W.heap.size := by
  rcases h.2 with ⟨h', _⟩ | ⟨g', cap, cur, h', hb, hh, _⟩
  · cases h'
  · cases h'; exact ⟨hb, (Array.getElem?_eq_some_iff.1 hh).1⟩
theorem List.map_set_bool (l : List Bool) (i : Nat) (b : Bool) : (l.set i b).map (fun x => Value.bool x) = (l.map fun x => Value.bool x).set i (.bool b) := by rw [List.map_set]
end Go.Proofs.YtbhhemidnmaodaaDoor
namespace Go.Proofs.YtbhhemidnmaodaaDoor
open Go.RowKit Go.Shelf
/-- The row of the lengths behind k steps. -/
def lensTo (F : Steps) (n : Nat) : Nat → List Int
  | 0 => List.replicate n 0
  | k + 1 => (lensTo F n k).set (plB F k).toNat ((wordB F k).length : Int)
theorem SLe.len {a b : List Int} (h : SLe a b) : a.length ≤ b.length := by
  rcases h with rfl | h | ⟨h, _⟩ <;> omega
/-- The lengths of the shortest words from state 0. -/
def lensM (m : List (List Int)) : List Int := lensTo (bfsM m 0) m.length (bfsM m 0).length
/-- How much longer the way by a letter is. -/
def excM (L : List Int) (m : List (List Int)) (s x : Nat) : Nat := (L.getD s 0 + 1 - L.getD (nx m s (x : Int)) 0).toNat
def gRow (L : List Int) (m : List (List Int)) (s d : Nat) : Nat → Nat
  | 0 => d
  | x + 1 => Nat.gcd (excM L m s x) (gRow L m s d x)
def gAll (L : List Int) (m : List (List Int)) : Nat → Nat
  | 0 => 0
  | s + 1 => gRow L m s (gAll L m s) (letters m)
/-- The period. -/
def perM (m : List (List Int)) : Nat := gAll (lensM m) m m.length
section
variable {m : List (List Int)} (hv : validM m = true) (hc : connM m = true)
include hv hc
end
end Go.Proofs.YtbhhemidnmaodaaDoor
namespace Go.Proofs.YtbhhemidnmaodaaDoor
open Go.RowKit Go.Shelf
theorem least_nat {p : Nat → Prop} : ∀ n, p n → ∃ k, p k ∧ k ≤ n ∧ ∀ j, p j → ¬ j < k := by
  intro n
  induction n using Nat.strongRecOn with
  | _ n ih =>
    intro hn
    by_cases h : ∃ j, p j ∧ j < n
    · obtain ⟨j, hj, hlt⟩ := h
      obtain ⟨k, h1, h2, h3⟩ := ih j hlt hj
      exact ⟨k, h1, by omega, h3⟩
    · exact ⟨n, hn, Nat.le_refl _, fun j hj hlt => h ⟨j, hj, hlt⟩⟩
section
variable {m : List (List Int)} (hv : validM m = true) (hc : connM m = true) (hp : perM m = 1)
include hv hc hp
end
end Go.Proofs.YtbhhemidnmaodaaDoor
namespace Go.Proofs.YtbhhemidnmaodaaDoor
open Go.RowKit Go.Shelf
/-- A word of k letters merges the two states. -/
def mergeP (m : List (List Int)) (p q k : Nat) : Prop := ∃ u : List Int, u.all (inB 0 ((letters m : Int) - 1)) = true ∧ u.length = k ∧ runM m p u = runM m q u
theorem mergeP_zero {m : List (List Int)} {p q : Nat} : mergeP m p q 0 ↔ p = q := by
  constructor
  · rintro ⟨u, _, h2, h3⟩
    obtain rfl : u = [] := List.length_eq_zero_iff.1 h2
    exact h3
  · rintro rfl; exact ⟨[], rfl, rfl, rfl⟩
theorem mergeP_cons {m : List (List Int)} {p q x k : Nat} (hx : x < letters m) (h : mergeP m (nx m p (x : Int)) (nx m q (x : Int)) k) : mergeP m p q (k + 1) := by
  obtain ⟨u, h1, h2, h3⟩ := h
  refine ⟨(x : Int) :: u, ?_, by simp [h2], h3⟩
  rw [List.all_cons, h1, Bool.and_true]
  exact inB_true ⟨by omega, by omega⟩
theorem mergeP_head {m : List (List Int)} {p q k : Nat} (h : mergeP m p q (k + 1)) : ∃ x, x < letters m ∧ mergeP m (nx m p (x : Int)) (nx m q (x : Int)) k := by
  obtain ⟨u, h1, h2, h3⟩ := h
  cases u with
  | nil => simp at h2
  | cons y u =>
    obtain ⟨hy, hu⟩ := all_cons_parts h1
    obtain ⟨x, rfl⟩ := Int.eq_ofNat_of_zero_le hy.1
    exact ⟨x, by omega, u, hu, by simpa using h2, h3⟩
theorem mergeP_symm {m : List (List Int)} {p q k : Nat} (h : mergeP m p q k) : mergeP m q p k := by
  obtain ⟨u, h1, h2, h3⟩ := h
  exact ⟨u, h1, h2, h3.symm⟩
/-- A shortest word that merges the two states has k letters. -/
def mdist (m : List (List Int)) (p q k : Nat) : Prop := mergeP m p q k ∧ ∀ i, i < k → ¬ mergeP m p q i
theorem mdist_symm {m : List (List Int)} {p q k : Nat} (h : mdist m p q k) : mdist m q p k := ⟨mergeP_symm h.1, fun i hi k => h.2 i hi (mergeP_symm k)⟩
theorem mdist_zero {m : List (List Int)} {p q : Nat} : mdist m p q 0 ↔ p = q := by
  constructor
  · exact fun h => mergeP_zero.1 h.1
  · exact fun h => ⟨mergeP_zero.2 h, fun i hi => by omega⟩
theorem mdist_unique {m : List (List Int)} {p q i j : Nat} (h : mdist m p q i) (k : mdist m p q j) : i = j := by
  rcases Nat.lt_trichotomy i j with e | e | e
  · exact absurd h.1 (k.2 i e)
  · exact e
  · exact absurd k.1 (h.2 j e)
theorem mdist_some {m : List (List Int)} {p q k : Nat} (h : mergeP m p q k) : ∃ j, j ≤ k ∧ mdist m p q j := by
  obtain ⟨j, h1, h2, h3⟩ := least_nat (p := mergeP m p q) k h
  exact ⟨j, h2, h1, fun i hi hp => h3 i hp hi⟩
theorem mdist_step {m : List (List Int)} {p q k : Nat} (h : mdist m p q (k + 1)) : ∃ x, x < letters m ∧ mdist m (nx m p (x : Int)) (nx m q (x : Int)) k := by
  obtain ⟨x, hx, he⟩ := mergeP_head h.1
  exact ⟨x, hx, he, fun i hi h2 => h.2 (i + 1) (by omega) (mergeP_cons hx h2)⟩
theorem mdist_up {m : List (List Int)} {p q x k : Nat} (hx : x < letters m) (h : mdist m (nx m p (x : Int)) (nx m q (x : Int)) k) (hn : ∀ i, i ≤ k → ¬ mergeP m p q i) : mdist m p q (k + 1) := ⟨mergeP_cons hx h.1, fun i hi => hn i (by omega)⟩
/-- Behind k rounds: the length of a shortest word, or -1. -/
def mlenAt (m : List (List Int)) : Nat → Nat → Nat → Int
  | 0, p, q => if p = q then 0 else -1
  | k + 1, p, q => if 0 ≤ mlenAt m k p q then mlenAt m k p q else if (List.range (letters m)).any (fun x : Nat => mlenAt m k (nx m p (x : Int)) (nx m q (x : Int)) == (k : Int)) then (k : Int) + 1 else -1
end Go.Proofs.YtbhhemidnmaodaaDoor
namespace Go.Proofs.YtbhhemidnmaodaaDoor
open Go.RowKit Go.Shelf
/-- The two states in their order. -/
def canon (p q : Nat) : Nat × Nat := (min p q, max p q)
theorem canon_cases (p q : Nat) : (p ≤ q ∧ canon p q = (p, q)) ∨ (q ≤ p ∧ canon p q = (q, p)) := by
  unfold canon
  rcases Nat.le_total p q with h | h
  · exact .inl ⟨h, by rw [Nat.min_eq_left h, Nat.max_eq_right h]⟩
  · exact .inr ⟨h, by rw [Nat.min_eq_right h, Nat.max_eq_left h]⟩
theorem canon_mdist {m : List (List Int)} {p q k : Nat} : mdist m (canon p q).1 (canon p q).2 k ↔ mdist m p q k := by
  rcases canon_cases p q with ⟨_, e⟩ | ⟨_, e⟩ <;> rw [e]
  exact ⟨mdist_symm, mdist_symm⟩
theorem canon_le (p q : Nat) : (canon p q).1 ≤ (canon p q).2 := by unfold canon; exact Nat.le_trans (Nat.min_le_left _ _) (Nat.le_max_left _ _)
theorem canon_lt {n p q : Nat} (hp : p < n) (hq : q < n) : (canon p q).2 < n := by
  rcases canon_cases p q with ⟨_, e⟩ | ⟨_, e⟩ <;> rw [e] <;> assumption
/-- Where the search stands at entry i: what it has found, with lengths. -/
structure MB (m : List (List Int)) (F : List (Nat × Nat × Nat)) (i : Nat) : Prop where
  ok : ∀ e ∈ F, e.1 ≤ e.2.1 ∧ e.2.1 < m.length ∧ mdist m e.1 e.2.1 e.2.2
  uniq : (F.map fun e => (e.1, e.2.1)).Nodup
  sorted : F.Pairwise fun a b => a.2.2 ≤ b.2.2
  near : ∀ e, F[i]? = some e → ∀ f ∈ F, f.2.2 ≤ e.2.2 + 1
  diag : ∀ s, s < m.length → (s, s, 0) ∈ F
  closed : ∀ j, j < i → ∀ e, F[j]? = some e → ∀ p q x, p < q → q < m.length → x < letters m → canon (nx m p (x : Int)) (nx m q (x : Int)) = (e.1, e.2.1) → ∃ l, (p, q, l) ∈ F
theorem MB.full {m : List (List Int)} {F : List (Nat × Nat × Nat)} {i : Nat} (hv : validM m = true) (h : MB m F i) : ∀ l p q, p ≤ q → q < m.length → mdist m p q l → (∀ e, F[i]? = some e → l ≤ e.2.2) → (i < F.length ∨ i = F.length) → (p, q, l) ∈ F ∨ (∃ e, F[i]? = some e ∧ l = e.2.2 + 1)
  | 0, p, q, hpq, hq, hd, _, _ => by
    obtain rfl := mdist_zero.1 hd
    exact .inl (h.diag p hq)
  | l + 1, p, q, hpq, hq, hd, hi, hil => by
    have hne : p ≠ q := fun e => by
      have := mdist_unique hd (mdist_zero.2 e)
      omega
    obtain ⟨x, hx, h2⟩ := mdist_step hd
    have n1 := ldM_ok hv p x (by omega) hx
    have n2 := ldM_ok hv q x hq hx
    rcases MB.full hv h l _ _ (canon_le _ _) (canon_lt n1 n2) (canon_mdist.2 h2) (fun e he => by have := hi e he; omega) hil with h3 | ⟨e, he, hl⟩
    · obtain ⟨j, hj, hje⟩ := List.mem_iff_getElem.1 h3
      have hji : j < i := by
        apply Classical.byContradiction
        intro hji
        rcases hil with hlt | heq
        · have he : F[i]? = some F[i] := List.getElem?_eq_getElem hlt
          have hle := hi _ he
          by_cases e : j = i
          · subst e
            rw [hje] at hle
            simp at hle
            omega
          · have := List.pairwise_iff_getElem.1 h.sorted i j hlt hj (by omega)
            rw [hje] at this
            simp at this
            omega
        · omega
      obtain ⟨l', hl'⟩ := h.closed j hji _ (by rw [List.getElem?_eq_getElem hj, hje]) p q x (by omega) hq hx rfl
      have := mdist_unique (h.ok _ hl').2.2 hd
      simp only at this
      subst this
      exact .inl hl'
    · have := hi e he
      omega
theorem MB.all {m : List (List Int)} {F : List (Nat × Nat × Nat)} (hv : validM m = true) (h : MB m F F.length) {l p q : Nat} (hpq : p ≤ q) (hq : q < m.length) (hd : mdist m p q l) : (p, q, l) ∈ F := by
  rcases h.full hv l p q hpq hq hd (fun e he => by simp at he) (.inr rfl) with h1 | ⟨e, he, _⟩
  · exact h1
  · simp at he
theorem MB.add {m : List (List Int)} {F : List (Nat × Nat × Nat)} {i : Nat} (hv : validM m = true) (h : MB m F i) {e : Nat × Nat × Nat} (he : F[i]? = some e) {p q x : Nat} (hpq : p < q) (hq : q < m.length) (hx : x < letters m)
    (hc : canon (nx m p (x : Int)) (nx m q (x : Int)) = (e.1, e.2.1)) (hno : ∀ l, (p, q, l) ∉ F) : MB m (F ++ [(p, q, e.2.2 + 1)]) i := by
  have hil : i < F.length := (List.getElem?_eq_some_iff.1 he).1
  have hee := List.mem_of_getElem? he
  have hme := (h.ok e hee).2.2
  have hm1 : mdist m (nx m p (x : Int)) (nx m q (x : Int)) e.2.2 := canon_mdist.1 (by rw [hc]; exact hme)
  have hd : mdist m p q (e.2.2 + 1) := by
    refine mdist_up hx hm1 fun j hj hp => ?_
    obtain ⟨j', hj', hd'⟩ := mdist_some hp
    rcases h.full hv j' p q (by omega) hq hd' (fun e' he' => by rw [he] at he'; cases he'; omega) (.inl hil) with h1 | ⟨e', he', hl⟩
    · exact hno _ h1
    · rw [he] at he'; cases he'; omega
  refine ⟨?_, ?_, ?_, ?_, fun s hs => List.mem_append_left _ (h.diag s hs), ?_⟩
  · intro f hf
    rcases List.mem_append.1 hf with h1 | h1
    · exact h.ok f h1
    · obtain rfl := List.mem_singleton.1 h1
      exact ⟨by simp; omega, hq, hd⟩
  · rw [List.map_append, List.nodup_append]
    refine ⟨h.uniq, by simp, ?_⟩
    rintro a ha b hb rfl
    obtain ⟨f, hf, rfl⟩ := List.mem_map.1 ha
    simp at hb
    exact hno f.2.2 (by rw [← hb.1, ← hb.2]; exact hf)
  · rw [List.pairwise_append]
    refine ⟨h.sorted, by simp, fun a ha b hb => ?_⟩
    obtain rfl := List.mem_singleton.1 hb
    exact h.near e he a ha
  · intro e' he' f hf
    rw [List.getElem?_append_left hil, he] at he'
    cases he'
    rcases List.mem_append.1 hf with h1 | h1
    · exact h.near e he f h1
    · obtain rfl := List.mem_singleton.1 h1
      exact Nat.le_refl _
  · intro j hj e' he' p' q' x' a1 a2 a3 a4
    rw [List.getElem?_append_left (by omega)] at he'
    obtain ⟨l, hl⟩ := h.closed j hj e' he' p' q' x' a1 a2 a3 a4
    exact ⟨l, List.mem_append_left _ hl⟩
theorem MB.next {m : List (List Int)} {F : List (Nat × Nat × Nat)} {i : Nat} (h : MB m F i) {e : Nat × Nat × Nat} (he : F[i]? = some e)
    (hall : ∀ p q x, p < q → q < m.length → x < letters m → canon (nx m p (x : Int)) (nx m q (x : Int)) = (e.1, e.2.1) → ∃ l, (p, q, l) ∈ F) : MB m F (i + 1) := by
  refine ⟨h.ok, h.uniq, h.sorted, ?_, h.diag, ?_⟩
  · intro e' he' f hf
    obtain ⟨b1, b2⟩ := List.getElem?_eq_some_iff.1 he
    obtain ⟨c1, c2⟩ := List.getElem?_eq_some_iff.1 he'
    have := List.pairwise_iff_getElem.1 h.sorted i (i + 1) b1 c1 (by omega)
    rw [b2, c2] at this
    have := h.near e he f hf
    omega
  · intro j hj e' he' p q x a1 a2 a3 a4
    by_cases hji : j = i
    · subst hji
      rw [he] at he'; cases he'
      exact hall p q x a1 a2 a3 a4
    · exact h.closed j (by omega) e' he' p q x a1 a2 a3 a4
/-- The merged pairs. -/
def diag0 (n : Nat) : List (Nat × Nat × Nat) := (List.range n).map fun s => (s, s, 0)
theorem MB.start (m : List (List Int)) : MB m (diag0 m.length) 0 := by
  refine ⟨?_, ?_, ?_, ?_, ?_, fun j hj => by omega⟩
  · intro e he
    obtain ⟨s, hs, rfl⟩ := List.mem_map.1 he
    exact ⟨Nat.le_refl _, List.mem_range.1 hs, mdist_zero.2 rfl⟩
  · unfold diag0 List.Nodup
    rw [List.map_map, List.pairwise_map]
    refine List.Pairwise.imp (fun {a b} hlt e => ?_) List.pairwise_lt_range
    simp at e
    omega
  · unfold diag0
    rw [List.pairwise_map]
    exact List.Pairwise.imp (fun _ => Nat.le_refl _) List.pairwise_lt_range
  · intro e he f hf
    obtain ⟨s, hs, rfl⟩ := List.mem_map.1 hf
    exact Nat.zero_le _
  · exact fun s hs => List.mem_map.2 ⟨s, List.mem_range.2 hs, rfl⟩
/-- No more than n^2 are found. -/
theorem MB.len {m : List (List Int)} {F : List (Nat × Nat × Nat)} {i : Nat} (h : MB m F i) : F.length ≤ m.length * m.length := by
  have hnd : (F.map fun e => ((e.1 * m.length + e.2.1 : Nat) : Int)).Nodup := by
    have hu := h.uniq
    unfold List.Nodup at hu ⊢
    rw [List.pairwise_map] at hu ⊢
    refine List.Pairwise.imp_of_mem (fun {a b} ha hb hne e => hne ?_) hu
    have e' : a.1 * m.length + a.2.1 = b.1 * m.length + b.2.1 := by omega
    have l1 := (h.ok a ha).2.1
    have l2 := (h.ok b hb).2.1
    have e1 : a.1 = b.1 := by
      have := congrArg (· / m.length) e'
      simp only [Nat.add_comm (_ * _), Nat.add_mul_div_right _ _ (show 0 < m.length by omega), Nat.div_eq_of_lt l1, Nat.div_eq_of_lt l2] at this
      omega
    rw [e1] at e'
    rw [e1, show a.2.1 = b.2.1 by omega]
  have := nodup_len (m.length * m.length) _ hnd (fun x hx => by
    obtain ⟨e, he, rfl⟩ := List.mem_map.1 hx
    have l1 := h.ok e he
    have := Nat.mul_le_mul_right m.length (show e.1 + 1 ≤ m.length by omega)
    rw [Nat.succ_mul] at this
    omega)
  simpa using this
end Go.Proofs.YtbhhemidnmaodaaDoor
namespace Go.Proofs.YtbhhemidnmaodaaDoor
open Go.RowKit Go.Shelf
theorem Bools.shape {w : World} {v : Value} {l : List Bool} {n : Nat} (h : Bools w v l) (hn : l.length = n) : ∃ A c, v = .slice A n c := by
  obtain ⟨A, c, rfl, _⟩ := h
  exact ⟨A, c, by rw [hn]⟩
section
variable {m : List (List Int)} (hv : validM m = true) (hc : connM m = true)
include hv hc
end
end Go.Proofs.YtbhhemidnmaodaaDoor
namespace Go.Proofs.YtbhhemidnmaodaaDoor
open Go.RowKit Go.Shelf
/-- A list by a function. -/
def Lf (n : Nat) (f : Nat → Int) : List Int := (List.range n).map f
theorem Lf_congr {n : Nat} {f g : Nat → Int} (h : ∀ i, i < n → f i = g i) : Lf n f = Lf n g := List.map_congr_left fun i hi => h i (List.mem_range.1 hi)
theorem Lf_set {n : Nat} (f : Nat → Int) (s : Nat) (v : Int) : (Lf n f).set s v = Lf n (fun i => if i = s then v else f i) := by
  apply List.ext_getElem
  · simp [Lf]
  · intro i h1 h2
    rw [List.getElem_set]
    simp only [Lf, List.getElem_map, List.getElem_range]
    by_cases e : s = i
    · rw [if_pos e, if_pos e.symm]
    · rw [if_neg e, if_neg (fun h => e h.symm)]
end Go.Proofs.YtbhhemidnmaodaaDoor
namespace Go.Proofs.YtbhhemidnmaodaaDoor
open Go.RowKit Go.Maps Go.WideAt
def heldR (v : Value) : Option (DataW Value × List MemPlace) := some (.held v, [])
/-- Block b is a map of at most n entries, c of them; the key l holds S l (z where there is none), and is there if T l. -/
def ValMap (w : World) (P : Program) (k : TypeId) (b n : Nat) (z : Value) (S : Lit → Value) (T : Lit → Bool) (c : Nat) : Prop :=
  ∃ D : DataW Value, w.ownsMap P k heldR b n D ∧ IsMap D ∧ Maps.size D = c ∧ ∀ l, D.atKey l (.held z) = .held (S l) ∧ Maps.has D l = T l
section
variable {w : World} {P : Program} {k : TypeId} {b n c : Nat} {z : Value} {S : Lit → Value} {T : Lit → Bool}
theorem ValMap.made (w : World) (P : Program) (k : TypeId) (z : Value) : ValMap (w.alloc (.map #[] 0)) P k w.heap.size 0 z (fun _ => z) (fun _ => false) 0 :=
  ⟨.map [], World.ownsMap_made w _ _ _, ⟨[], rfl⟩, rfl, fun l => ⟨rfl, rfl⟩⟩
theorem ValMap.look {t e : TypeId} (h : ValMap w P k b n z S T c) (K : Keyed P k) (ht : P.underlying t = some (.map k e)) (hz : (zeroValue e).run P w = .ok z w) {key : Value} {kl : Lit} (hkey : keyOf P k key = some kl) :
    (Instr.lookup t (.map (some b)) key false).run P w = .ok (S kl) w := by
  obtain ⟨D, hD, _, _, hS⟩ := h
  obtain ⟨v, ps, hrun, hv⟩ := hD.lookup K ht hz (rfl : heldR z = some (.held z, [])) hkey
  rw [(hS kl).1] at hv
  simp only [heldR, Option.some.injEq, Prod.mk.injEq, DataW.held.injEq] at hv
  rw [hrun, hv.1]
theorem ValMap.look_ok {t e : TypeId} (h : ValMap w P k b n z S T c) (K : Keyed P k) (ht : P.underlying t = some (.map k e)) (hz : (zeroValue e).run P w = .ok z w) {key : Value} {kl : Lit} (hkey : keyOf P k key = some kl) :
    (Instr.lookup t (.map (some b)) key true).run P w = .ok (.tuple #[S kl, .bool (T kl)]) w := by
  obtain ⟨D, hD, _, _, hS⟩ := h
  obtain ⟨v, ps, hrun, hv⟩ := hD.look_ok K ht hz (rfl : heldR z = some (.held z, [])) hkey
  rw [(hS kl).1] at hv
  simp only [heldR, Option.some.injEq, Prod.mk.injEq, DataW.held.injEq] at hv
  rw [hrun, hv.1, (hS kl).2]
open Classical in
theorem ValMap.put {t e : TypeId} (h : ValMap w P k b n z S T c) (K : Keyed P k) (ht : P.underlying t = some (.map k e)) (hn : n < maxLen) {key : Value} {kl : Lit} (hkey : keyOf P k key = some kl) (v : Value) :
    ∃ w', (Instr.mapUpdate t (.map (some b)) key v).run P w = .ok () w' ∧ ValMap w' P k b (n + 1) z (fun l => if l = kl then v else S l) (fun l => if l = kl then true else T l) (if T kl = true then c else c + 1) ∧ w.grownBy w' (some b) := by
  obtain ⟨D, hD, hM, hc, hS⟩ := h
  obtain ⟨w', hrun, h1, h2⟩ := hD.update K ht hn hkey (rfl : heldR v = some (.held v, []))
  refine ⟨w', hrun, ⟨_, h1, ?_, ?_, fun l => ?_⟩, h2⟩
  · obtain ⟨es, rfl⟩ := hM; exact ⟨_, rfl⟩
  · rw [size_put (hD.tidy K), hc, (hS kl).2]
  · by_cases e : l = kl
    · subst e
      rw [atKey_put_same hM (K.key hkey), has_put_same hM (K.key hkey)]
      simp
    · rw [atKey_put_other e, has_put_other e]
      simp only [if_neg e]
      exact hS l
theorem ValMap.kept {w' : World} (h : ValMap w P k b n z S T c) (hk : w'.heap[b]? = w.heap[b]?) : ValMap w' P k b n z S T c := by
  obtain ⟨D, ⟨es, clock, hb, F, hs, hD⟩, hM, hS⟩ := h
  exact ⟨D, ⟨es, clock, hk.trans hb, F, hs, hD⟩, hM, hS⟩
theorem ValMap.lt (h : ValMap w P k b n z S T c) : b < w.heap.size := by
  obtain ⟨D, hD, _⟩ := h; exact hD.lt
theorem ValMap.len {t e : TypeId} (h : ValMap w P k b n z S T c) (ht : P.underlying t = some (.map k e)) (ty : TypeId) : (Builtin.len_ #[t] ty #[.map (some b)]).run P w = .ok (.int .i64 c) w := by
  obtain ⟨D, hD, _, rfl, _⟩ := h
  exact hD.len ht ty
end
end Go.Proofs.YtbhhemidnmaodaaDoor
namespace Go.Proofs.YtbhhemidnmaodaaDoor
open Go.RowKit Go.Shelf
/-- All pairs of states, the first not greater. -/
def allPairs (n : Nat) : List (Nat × Nat) := (List.range n).flatMap fun q => (List.range (q + 1)).map fun p => (p, q)
theorem allPairs_mem {n : Nat} {k : Nat × Nat} : k ∈ allPairs n ↔ k.1 ≤ k.2 ∧ k.2 < n := by
  unfold allPairs
  simp only [List.mem_flatMap, List.mem_map, List.mem_range]
  constructor
  · rintro ⟨q, hq, p, hp, rfl⟩; exact ⟨by simp only; omega, hq⟩
  · rintro ⟨h1, h2⟩; exact ⟨k.2, h2, k.1, by omega, rfl⟩
theorem allPairs_succ (n : Nat) : allPairs (n + 1) = allPairs n ++ (List.range (n + 1)).map fun p => (p, n) := by
  unfold allPairs
  rw [List.range_succ, List.flatMap_append]
  simp [List.range_succ]
theorem allPairs_len : ∀ n, 2 * (allPairs n).length = n * (n + 1)
  | 0 => rfl
  | n + 1 => by
    rw [allPairs_succ, List.length_append, List.length_map, List.length_range, Nat.mul_add, allPairs_len n]
    grind
theorem allPairs_nodup : ∀ n, (allPairs n).Nodup
  | 0 => by simp [allPairs]
  | n + 1 => by
    rw [allPairs_succ, List.nodup_append]
    refine ⟨allPairs_nodup n, ?_, ?_⟩
    · unfold List.Nodup
      rw [List.pairwise_map]
      refine List.Pairwise.imp (fun {a b} hlt e => ?_) List.pairwise_lt_range
      have := congrArg Prod.fst e
      simp only at this
      omega
    · rintro a ha b hb rfl
      have h1 := allPairs_mem.1 ha
      obtain ⟨p, _, rfl⟩ := List.mem_map.1 hb
      exact absurd h1.2 (Nat.lt_irrefl _)
theorem nodup_sub {K : Type} [DecidableEq K] : ∀ {A B : List K}, A.Nodup → (∀ x ∈ A, x ∈ B) → A.length ≤ B.length
  | [], _, _, _ => Nat.zero_le _
  | x :: A, B, hA, h => by
    have hx := h x (by simp)
    have h1 := List.nodup_cons.1 hA
    have := nodup_sub (B := B.erase x) h1.2 fun y hy => (List.mem_erase_of_ne fun e => by subst e; exact h1.1 hy).2 (h y (by simp [hy]))
    rw [List.length_erase_of_mem hx] at this
    have := List.length_pos_of_mem hx
    simp only [List.length_cons]
    omega
/-- The search has found n(n + 1)/2 pairs if and only if each pair is merged. -/
theorem MB.count {m : List (List Int)} {F : List (Nat × Nat × Nat)} (hv : validM m = true) (h : MB m F F.length) : m.length * (m.length + 1) ≤ 2 * F.length ↔ ∀ p q, p < q → q < m.length → ∃ k, mergeP m p q k := by
  have hF : F.length = (F.map fun e => (e.1, e.2.1)).length := by simp
  have hsub : ∀ x ∈ (F.map fun e => (e.1, e.2.1)), x ∈ allPairs m.length := fun x hx => by
    obtain ⟨e, he, rfl⟩ := List.mem_map.1 hx
    exact allPairs_mem.2 ⟨(h.ok e he).1, (h.ok e he).2.1⟩
  have hl := allPairs_len m.length
  constructor
  · intro hc p q hpq hq
    apply Classical.byContradiction
    intro hno
    have hni : (p, q) ∉ (F.map fun e => (e.1, e.2.1)) := fun hm => by
      obtain ⟨e, he, hee⟩ := List.mem_map.1 hm
      simp only [Prod.mk.injEq] at hee
      have := (h.ok e he).2.2.1
      rw [hee.1, hee.2] at this
      exact hno ⟨_, this⟩
    have hle := nodup_sub (A := (p, q) :: (F.map fun e => (e.1, e.2.1))) (B := allPairs m.length) (List.nodup_cons.2 ⟨hni, h.uniq⟩) (fun x hx => by
      rcases List.mem_cons.1 hx with rfl | hx
      · exact allPairs_mem.2 ⟨by simp only; omega, hq⟩
      · exact hsub x hx)
    rw [List.length_cons, ← hF] at hle
    omega
  · intro hall
    have hle := nodup_sub (A := allPairs m.length) (B := (F.map fun e => (e.1, e.2.1))) (allPairs_nodup _) (fun x hx => by
      have hx' := allPairs_mem.1 hx
      rcases Nat.lt_or_ge x.1 x.2 with hlt | hge
      · obtain ⟨k, hk⟩ := hall x.1 x.2 hlt hx'.2
        obtain ⟨j, _, hd⟩ := mdist_some hk
        exact List.mem_map.2 ⟨_, h.all hv hx'.1 hx'.2 hd, rfl⟩
      · exact List.mem_map.2 ⟨_, h.diag x.1 (by omega), by simp only; exact Prod.ext rfl (by simp only; omega)⟩)
    rw [← hF] at hle
    omega
end Go.Proofs.YtbhhemidnmaodaaDoor
namespace Go.Proofs.YtbhhemidnmaodaaDoor
open Go.RowKit Go.Shelf
/-- The pair (p', q') with the letter x' was looked at before (p, q) with x. -/
def doneL (m : List (List Int)) (p q x p' q' x' : Nat) : Prop := p' < q' ∧ q' < m.length ∧ x' < letters m ∧ (p' < p ∨ (p' = p ∧ (q' < q ∨ (q' = q ∧ x' < x))))
def LB (m : List (List Int)) (p q x : Nat) (L : Nat → Nat → List (Nat × Nat)) : Prop :=
  ∀ i j e, e ∈ L i j ↔ ∃ x', doneL m p q x e.1 e.2 x' ∧ canon (nx m e.1 (x' : Int)) (nx m e.2 (x' : Int)) = (i, j)
theorem LB.start (m : List (List Int)) : LB m 0 1 0 (fun _ _ => []) := fun i j e => by
  simp only [List.not_mem_nil, false_iff]
  rintro ⟨x', ⟨h1, _, _, h2⟩, _⟩
  omega
theorem LB.same {m : List (List Int)} {p q x p2 q2 x2 : Nat} {L : Nat → Nat → List (Nat × Nat)} (h : LB m p q x L) (hd : ∀ p' q' x', doneL m p q x p' q' x' ↔ doneL m p2 q2 x2 p' q' x') : LB m p2 q2 x2 L := fun i j e => by
  rw [h i j e]
  exact exists_congr fun x' => and_congr_left fun _ => hd _ _ _
theorem LB.add {m : List (List Int)} {p q x i j : Nat} {L : Nat → Nat → List (Nat × Nat)} (h : LB m p q x L) (hpq : p < q) (hq : q < m.length) (hx : x < letters m) (hc : canon (nx m p (x : Int)) (nx m q (x : Int)) = (i, j)) :
    LB m p q (x + 1) (fun a d => if a = i ∧ d = j then L i j ++ [(p, q)] else L a d) := fun a d e => by
  have hsplit : (∃ x', doneL m p q (x + 1) e.1 e.2 x' ∧ canon (nx m e.1 (x' : Int)) (nx m e.2 (x' : Int)) = (a, d)) ↔ (e ∈ L a d ∨ (e = (p, q) ∧ (i, j) = (a, d))) := by
    rw [h a d e]
    constructor
    · rintro ⟨x', h1, h2⟩
      by_cases e1 : e.1 = p ∧ e.2 = q ∧ x' = x
      · obtain ⟨e2, e3, rfl⟩ := e1
        rw [e2, e3, hc] at h2
        exact .inr ⟨Prod.ext e2 e3, h2⟩
      · exact .inl ⟨x', by unfold doneL at h1 ⊢; omega, h2⟩
    · rintro (⟨x', h1, h2⟩ | ⟨rfl, h2⟩)
      · exact ⟨x', by unfold doneL at h1 ⊢; omega, h2⟩
      · exact ⟨x, ⟨hpq, hq, hx, .inr ⟨rfl, .inr ⟨rfl, Nat.lt_succ_self _⟩⟩⟩, by simp only; rw [hc, h2]⟩
  rw [hsplit]
  by_cases e1 : a = i ∧ d = j
  · simp only [if_pos e1]
    obtain ⟨rfl, rfl⟩ := e1
    simp
  · simp only [if_neg e1, Prod.mk.injEq]
    constructor
    · exact .inl
    · rintro (h | ⟨_, h1, h2⟩)
      · exact h
      · exact absurd ⟨h1.symm, h2.symm⟩ e1
theorem LB.done {m : List (List Int)} {q : Nat} {L : Nat → Nat → List (Nat × Nat)} (h : LB m m.length q 0 L) (i j : Nat) (e : Nat × Nat) : e ∈ L i j ↔ e.1 < e.2 ∧ e.2 < m.length ∧ ∃ x', x' < letters m ∧ canon (nx m e.1 (x' : Int)) (nx m e.2 (x' : Int)) = (i, j) := by
  rw [h i j e]
  constructor
  · rintro ⟨x', ⟨a1, a2, a3, a4⟩, h2⟩
    exact ⟨a1, a2, x', a3, h2⟩
  · rintro ⟨a1, a2, x', a3, h2⟩
    exact ⟨x', ⟨a1, a2, a3, by omega⟩, h2⟩
end Go.Proofs.YtbhhemidnmaodaaDoor
namespace Go.Proofs.YtbhhemidnmaodaaDoor
open Go.RowKit Go.Shelf
attribute [local go_sem] Oper.semAt_some
/-- What is behind the marks of loops over functions: only those marks are turned. -/
def MarksOff (B : Nat) (W W' : World) : Prop := Below B W W' ∧ ∀ (k : Nat) (o : Obj), W.heap[k]? = some o → o.isCells = true → W'.heap[k]? = some o
theorem MarksOff.refl (B : Nat) (W : World) (h : B ≤ W.heap.size) : MarksOff B W W := ⟨(Below.refl _ W).mono h, fun _ _ h _ => h⟩
end Go.Proofs.YtbhhemidnmaodaaDoor
namespace Go.Proofs.YtbhhemidnmaodaaDoor
open Go.RowKit Go.Shelf Go.Maps Go.WideAt Go.WideMaps
theorem plainInt : Tryd.prog.plainKey 3 = true := by kernel_rfl
theorem cellsInt : Tryd.prog.cellsOf 3 = 1 := by kernel_rfl
theorem equalIn_pair {t : TypeId} (ht : Tryd.prog.underlying t = some (.array 2 3)) (a b c d : Int) (w : World) : (Op.equalIn 10000 t (.agg #[.int .i64 a, .int .i64 b]) (.agg #[.int .i64 c, .int .i64 d])).run Tryd.prog w = .ok (a == c && b == d) w := by
  obtain ⟨i, hi, -⟩ := info_parts infoInt
  rw [show (10000 : Nat) = 9999 + 1 from rfl, run_equalIn_array w 9999 _ _ ht hi, cellsInt, show List.range 2 = [0, 1] from rfl]
  have p0 : (part 3 #[.int .i64 a, .int .i64 b] (0 * 1)).run Tryd.prog w = .ok (.int .i64 a) w := run_part_plain w plainInt rfl
  have p1 : (part 3 #[.int .i64 a, .int .i64 b] (1 * 1)).run Tryd.prog w = .ok (.int .i64 b) w := run_part_plain w plainInt rfl
  have q0 : (part 3 #[.int .i64 c, .int .i64 d] (0 * 1)).run Tryd.prog w = .ok (.int .i64 c) w := run_part_plain w plainInt rfl
  have q1 : (part 3 #[.int .i64 c, .int .i64 d] (1 * 1)).run Tryd.prog w = .ok (.int .i64 d) w := run_part_plain w plainInt rfl
  have e0 : (Op.equalIn 9999 3 (.int .i64 a) (.int .i64 c)).run Tryd.prog w = .ok (a == c) w := run_equalIn_int w 9998 _ _ _ _ _ Tryd.underlying3
  have e1 : (Op.equalIn 9999 3 (.int .i64 b) (.int .i64 d)).run Tryd.prog w = .ok (b == d) w := run_equalIn_int w 9998 _ _ _ _ _ Tryd.underlying3
  unfold Op.eqItems
  rw [Sem.run_bind, p0, Result.andThen_ok, Sem.run_bind, q0, Result.andThen_ok, Sem.run_bind, e0, Result.andThen_ok]
  cases h : a == c with
  | false => simp
  | true =>
    unfold Op.eqItems
    simp only [Bool.not_true, Bool.false_eq_true, if_false]
    rw [Sem.run_bind, p1, Result.andThen_ok, Sem.run_bind, q1, Result.andThen_ok, Sem.run_bind, e1, Result.andThen_ok]
    cases h2 : b == d <;> simp [Op.eqItems]
theorem noGuard2 : Tryd.prog.eqGuardType Tryd.prog.depth 70 = false := by kernel_rfl
end Go.Proofs.YtbhhemidnmaodaaDoor
namespace Go.Proofs.YtbhhemidnmaodaaDoor
/-- Polynomials in two letters as lists of terms. -/
def mono (s u : Int) (k : Nat × Nat) : Int := s ^ k.1 * u ^ k.2
end Go.Proofs.YtbhhemidnmaodaaDoor
namespace Go.Proofs.YtbhhemidnmaodaaDoor
open Go.RowKit Go.Shelf
theorem ints_at {W : World} {ad : Addr} {n c : Nat} {l : List Int} (h : Ints W (.slice (some ad) n c) l) : ∀ j u, (l.map fun x => Value.int .i64 x)[j]? = some u → W.cell? (ad.add j) = some u := by
  intro j u hu
  obtain ⟨A, cap, hv, _, hc⟩ := h
  have hj : j < l.length := by
    have := (List.getElem?_eq_some_iff.1 hu).1
    simpa using this
  obtain ⟨b, off, hA, hcell⟩ := hc j hj
  simp only [Value.slice.injEq] at hv
  obtain ⟨rfl, -, -⟩ := hv
  cases hA
  have e : (⟨b, off, none⟩ : Addr).add j = ⟨b, off + j, none⟩ := by
    by_cases h0 : j = 0
    · subst h0; simp [Addr.add]
    · simp [Addr.add, h0]
  rw [e, hcell]
  simp only [List.getElem?_map, List.getElem?_eq_getElem hj, Option.map_some, Option.some.injEq] at hu
  rw [← hu, getD_elem l j hj]
end Go.Proofs.YtbhhemidnmaodaaDoor
namespace Go.Proofs.YtbhhemidnmaodaaDoor
open Go.RowKit Go.Shelf
/-- The value v is a list of k rows; row p lies in block B p and holds f p 0, .., f p (n - 1). -/
structure Tbl (W : World) (n₀ : Nat) (v : Value) (n k : Nat) (B : Nat → Nat) (f : Nat → Nat → Int) : Prop where
  outer : W.ownsRow n₀ 27 1 v k ((List.range k).map fun p => .slice (some ⟨B p, 0, none⟩) n n)
  inner : ∀ p, p < k → W.ownsRow n₀ 3 1 (.slice (some ⟨B p, 0, none⟩) n n) n ((Lf n (f p)).map fun x => .int .i64 x)
  apart : ∀ p, p < k → v.ownBlock ≠ some (B p)
  inj : ∀ p q, p < k → q < k → B p = B q → p = q
section
variable {W W' : World} {n₀ n k : Nat} {v : Value} {B : Nat → Nat} {f : Nat → Nat → Int}
theorem Tbl.kept (h : Tbl W n₀ v n k B f) (hk : ∀ b, n₀ ≤ b → b < W.heap.size → W'.heap[b]? = W.heap[b]?) : Tbl W' n₀ v n k B f :=
  ⟨owns_kept h.outer hk, fun p hp => owns_kept (h.inner p hp) hk, h.apart, h.inj⟩
theorem Tbl.below (h : Tbl W n₀ v n k B f) (hb : Below W.heap.size W W') : Tbl W' n₀ v n k B f := h.kept fun b _ hs => hb.block b hs
variable {g c : Nat}
theorem Tbl.cell (h : Tbl W n₀ (.slice (some ⟨g, 0, none⟩) k c) n k B f) {p : Nat} (hp : p < k) : W.cell? ⟨g, p, none⟩ = some (.slice (some ⟨B p, 0, none⟩) n n) := by
  rw [h.outer.cellAt p (by omega)]
  simp [List.getElem?_map, List.getElem?_range hp]
theorem Tbl.ge (h : Tbl W n₀ v n k B f) {p : Nat} (hp : p < k) : n₀ ≤ B p ∧ B p < W.heap.size := ownq_lt (h.inner p hp)
/-- A number is stored. -/
theorem Tbl.set (h : Tbl W n₀ v n k B f) {p q : Nat} (hp : p < k) (x : Int) : Tbl (W.setCell ⟨B p, q, none⟩ (.int .i64 x)) n₀ v n k B (fun a b => if a = p ∧ b = q then x else f a b) := by
  obtain ⟨h1, h2⟩ := (h.inner p hp).stored q (.int .i64 x)
  refine ⟨h.outer.kept h2 (.inr (h.apart p hp)), fun a ha => ?_, h.apart, h.inj⟩
  by_cases e : a = p
  · subst e
    rw [← List.map_set (f := fun x => Value.int .i64 x), Lf_set] at h1
    refine cast ?_ h1
    congr 2
    exact Lf_congr fun i _ => by simp
  · have : (Lf n fun b => if a = p ∧ b = q then x else f a b) = Lf n (f a) := Lf_congr fun i _ => by rw [if_neg (fun h => e h.1)]
    rw [show (fun b => if a = p ∧ b = q then x else f a b) = fun b => (fun a b => if a = p ∧ b = q then x else f a b) a b from rfl] at this
    rw [this]
    refine (h.inner a ha).kept h2 (.inr ?_)
    intro e2
    simp only [Value.ownBlock, Option.some.injEq] at e2
    exact e (h.inj a p ha hp e2)
end
/-- The reference's table within round k + 1: the pairs before (p, q) are done. -/
def mixT (m : List (List Int)) (k p q a b : Nat) : Int := if a < p ∨ (a = p ∧ b < q) then mlenAt m (k + 1) a b else mlenAt m k a b
theorem mixT_step (m : List (List Int)) (k p q a b : Nat) : mixT m k p (q + 1) a b = if a = p ∧ b = q then mlenAt m (k + 1) p q else mixT m k p q a b := by
  unfold mixT
  by_cases e : a = p ∧ b = q
  · rw [if_pos e, if_pos (by omega), e.1, e.2]
  · rw [if_neg e]
    by_cases e2 : a < p ∨ (a = p ∧ b < q)
    · rw [if_pos e2, if_pos (by omega)]
    · rw [if_neg e2, if_neg (by omega)]
theorem mixT_row (m : List (List Int)) {n k p a b : Nat} (hb : b < n) : mixT m k p n a b = mixT m k (p + 1) 0 a b := by
  unfold mixT
  by_cases e2 : a < p ∨ (a = p ∧ b < n)
  · rw [if_pos e2, if_pos (by omega)]
  · rw [if_neg e2, if_neg (by omega)]
end Go.Proofs.YtbhhemidnmaodaaDoor
namespace Go.Proofs.YtbhhemidnmaodaaDoor
open Go.RowKit Go.Shelf
/-- Within round k + 1, before the pair (p, q): whether something has changed. -/
def moreB (m : List (List Int)) (k p q : Nat) (b : Bool) : Prop :=
  (b = true → ∃ a c, a < m.length ∧ c < m.length ∧ mdist m a c (k + 1)) ∧ (b = false → ∀ a c, a < m.length → c < m.length → mixT m k p q a c = mlenAt m k a c)
theorem moreB.same {m : List (List Int)} {k p q : Nat} {b : Bool} (h : moreB m k p q b) (hs : mlenAt m (k + 1) p q = mlenAt m k p q) : moreB m k p (q + 1) b := by
  refine ⟨h.1, fun hb a c ha hc => ?_⟩
  rw [mixT_step]
  by_cases e : a = p ∧ c = q
  · rw [if_pos e, hs, e.1, e.2]
  · rw [if_neg e]; exact h.2 hb a c ha hc
theorem moreB.row {m : List (List Int)} {k p : Nat} {b : Bool} (h : moreB m k p m.length b) : moreB m k (p + 1) 0 b :=
  ⟨h.1, fun hb a c ha hc => by rw [← mixT_row m hc]; exact h.2 hb a c ha hc⟩
end Go.Proofs.YtbhhemidnmaodaaDoor
namespace Go.Proofs.YtbhhemidnmaodaaDoor
open Go.RowKit Go.Shelf
def Lb (n : Nat) (f : Nat → Bool) : List Bool := (List.range n).map f
theorem Lb_congr {n : Nat} {f g : Nat → Bool} (h : ∀ i, i < n → f i = g i) : Lb n f = Lb n g := List.map_congr_left fun i hi => h i (List.mem_range.1 hi)
theorem Lb_set {n : Nat} (f : Nat → Bool) (s : Nat) (v : Bool) : (Lb n f).set s v = Lb n (fun i => if i = s then v else f i) := by
  apply List.ext_getElem
  · simp [Lb]
  · intro i h1 h2
    rw [List.getElem_set]
    by_cases e : s = i
    · subst e; simp [Lb]
    · rw [if_neg e]; simp [Lb, Ne.symm e]
/-- The rows of a table that is being made: the first k are there. -/
def rowsB (n k : Nat) (B : Nat → Nat) : List Value := (List.range n).map fun p => if p < k then .slice (some ⟨B p, 0, none⟩) n n else .slice none 0 0
theorem rowsB_get {n k : Nat} (B : Nat → Nat) {p : Nat} (hp : p < n) : (rowsB n k B)[p]? = some (if p < k then .slice (some ⟨B p, 0, none⟩) n n else .slice none 0 0) := by
  simp [rowsB, List.getElem?_map, List.getElem?_range hp]
/-- The block g holds n rows, the first k of them in blocks of their own; row p holds f p 0, .., f p (n - 1). -/
structure BTb (W : World) (n₀ g n k : Nat) (B : Nat → Nat) (f : Nat → Nat → Bool) : Prop where
  outer : W.ownsRow n₀ 72 1 (.slice (some ⟨g, 0, none⟩) n n) n (rowsB n k B)
  inner : ∀ p, p < k → W.ownsRow n₀ 4 1 (.slice (some ⟨B p, 0, none⟩) n n) n ((Lb n (f p)).map fun x => .bool x)
  apart : ∀ p, p < k → g ≠ B p
  inj : ∀ p q, p < k → q < k → B p = B q → p = q
section
variable {W W' : World} {n₀ g n k : Nat} {B : Nat → Nat} {f : Nat → Nat → Bool}
theorem BTb.new (h : W.ownsRow n₀ 72 1 (.slice (some ⟨g, 0, none⟩) n n) n (List.replicate n (.slice none 0 0))) : BTb W n₀ g n 0 B f := by
  refine ⟨?_, fun p hp => by omega, fun p hp => by omega, fun p q hp => by omega⟩
  have e : rowsB n 0 B = List.replicate n (.slice none 0 0) := by
    apply List.ext_getElem
    · simp [rowsB]
    · intro i h1 h2; simp [rowsB]
  rw [e]; exact h
theorem BTb.kept (h : BTb W n₀ g n k B f) (hk : ∀ b, n₀ ≤ b → b < W.heap.size → W'.heap[b]? = W.heap[b]?) : BTb W' n₀ g n k B f :=
  ⟨owns_kept h.outer hk, fun p hp => owns_kept (h.inner p hp) hk, h.apart, h.inj⟩
theorem BTb.below (h : BTb W n₀ g n k B f) (hb : Below W.heap.size W W') : BTb W' n₀ g n k B f := h.kept fun b _ hs => hb.block b hs
theorem BTb.ge (h : BTb W n₀ g n k B f) {p : Nat} (hp : p < k) : n₀ ≤ B p ∧ B p < W.heap.size := ownq_lt (h.inner p hp)
theorem BTb.lt (h : BTb W n₀ g n k B f) : n₀ ≤ g ∧ g < W.heap.size := ownq_lt h.outer
/-- A row is made and stored. -/
theorem BTb.row {b : Nat} (h : BTb W n₀ g n k B f) (hk : k < n) (hg : ∀ c, n₀ ≤ c → c < W.heap.size → W'.heap[c]? = W.heap[c]?) (hb : W.heap.size ≤ b)
    (hr : W'.ownsRow n₀ 4 1 (.slice (some ⟨b, 0, none⟩) n n) n ((Lb n (f k)).map fun x => .bool x)) : BTb (W'.setCell ⟨g, k, none⟩ (.slice (some ⟨b, 0, none⟩) n n)) n₀ g n (k + 1) (fun p => if p = k then b else B p) f := by
  have h' := h.kept hg
  have hgb : g ≠ b := by have := h.lt; omega
  have hBb : ∀ p, p < k → B p ≠ b := fun p hp => by have := h.ge hp; omega
  obtain ⟨s1, s2⟩ := h'.outer.stored k (.slice (some ⟨b, 0, none⟩) n n)
  refine ⟨?_, fun p hp => ?_, fun p hp => ?_, fun p q hp hq e => ?_⟩
  · refine cast ?_ s1
    congr 1
    apply List.ext_getElem
    · simp [rowsB]
    · intro i h1 h2
      rw [List.getElem_set]
      by_cases e : k = i
      · subst e; simp [rowsB]
      · rw [if_neg e]
        simp only [rowsB, List.getElem_map, List.getElem_range]
        by_cases e2 : i < k
        · rw [if_pos e2, if_pos (by omega), if_neg (by omega)]
        · rw [if_neg e2, if_neg (by omega)]
  · by_cases e : p = k
    · subst e; simp only [if_true]
      exact hr.kept s2 (.inr (by simp [Value.ownBlock]; exact fun e => hgb e.symm))
    · simp only [if_neg e]
      exact (h'.inner p (by omega)).kept s2 (.inr (by simp [Value.ownBlock]; exact fun e => h.apart p (by omega) e.symm))
  · by_cases e : p = k
    · subst e; simp only [if_true]; exact hgb
    · simp only [if_neg e]; exact h.apart p (by omega)
  · by_cases e1 : p = k <;> by_cases e2 : q = k
    · omega
    · simp only [if_pos e1, if_neg e2] at e; exact absurd e.symm (hBb q (by omega))
    · simp only [if_neg e1, if_pos e2] at e; exact absurd e (hBb p (by omega))
    · simp only [if_neg e1, if_neg e2] at e; exact h.inj p q (by omega) (by omega) e
theorem BTb.cell (h : BTb W n₀ g n k B f) {p : Nat} (hp : p < n) : W.cell? ⟨g, p, none⟩ = some (if p < k then .slice (some ⟨B p, 0, none⟩) n n else .slice none 0 0) := by
  rw [h.outer.cellAt p (by omega), rowsB_get B hp]
theorem BTb.at (h : BTb W n₀ g n n B f) {p : Nat} (hp : p < n) : W.cell? ⟨g, p, none⟩ = some (.slice (some ⟨B p, 0, none⟩) n n) := by
  rw [h.cell hp, if_pos hp]
/-- A truth value is stored. -/
theorem BTb.set (h : BTb W n₀ g n k B f) {p q : Nat} (hp : p < k) (x : Bool) : BTb (W.setCell ⟨B p, q, none⟩ (.bool x)) n₀ g n k B (fun a b => if a = p ∧ b = q then x else f a b) := by
  obtain ⟨h1, h2⟩ := (h.inner p hp).stored q (.bool x)
  refine ⟨h.outer.kept h2 (.inr (by simp [Value.ownBlock]; exact fun e => h.apart p hp e)), fun a ha => ?_, h.apart, h.inj⟩
  by_cases e : a = p
  · subst e
    rw [← List.map_set_bool, Lb_set] at h1
    refine cast ?_ h1
    congr 2
    exact Lb_congr fun i _ => by simp
  · have : (Lb n fun b => if a = p ∧ b = q then x else f a b) = Lb n (f a) := Lb_congr fun i _ => by rw [if_neg (fun h => e h.1)]
    rw [show (fun b => if a = p ∧ b = q then x else f a b) = fun b => (fun a b => if a = p ∧ b = q then x else f a b) a b from rfl] at this
    rw [this]
    refine (h.inner a ha).kept h2 (.inr ?_)
    intro e2
    simp only [Value.ownBlock, Option.some.injEq] at e2
    exact e (h.inj a p ha hp e2)
end
end Go.Proofs.YtbhhemidnmaodaaDoor
namespace Go.Proofs.YtbhhemidnmaodaaDoor
open Go.RowKit Go.Shelf
/-- A list that came in or was made: if it is nil it has no room. -/
def Room (w : World) (v : Value) (l : List Int) : Prop := ∃ A c, v = .slice A l.length c ∧ (A = none → c = 0) ∧ Ints w v l
theorem Room.below {w w' : World} {v : Value} {l : List Int} (h : Room w v l) (hb : Below w.heap.size w w') : Room w' v l := by
  obtain ⟨A, c, h1, h2, h3⟩ := h
  exact ⟨A, c, h1, h2, h3.below hb⟩
end Go.Proofs.YtbhhemidnmaodaaDoor
namespace Go.Proofs.YtbhhemidnmaodaaDoor
open Go.RowKit Go.Shelf
/-- The truth values of a set; its number. -/
def bitL (n S : Nat) : List Bool := Lb n S.testBit
end Go.Proofs.YtbhhemidnmaodaaDoor
namespace Go.Proofs.YtbhhemidnmaodaaDoor
open Go.RowKit Go.Shelf
/-- A slice of truth values, of numbers, in blocks of a kind. -/
def BoolsP (W : World) (P : Nat → Prop) (v : Value) (l : List Bool) : Prop :=
  ∃ A cap, v = .slice A l.length cap ∧ l.length ≤ big ∧ ∀ i, i < l.length → ∃ b off, A = some ⟨b, off, none⟩ ∧ P b ∧ W.cell? ⟨b, off + i, none⟩ = some (.bool (l.getD i false))
def IntsP (W : World) (P : Nat → Prop) (v : Value) (l : List Int) : Prop :=
  ∃ A cap, v = .slice A l.length cap ∧ (A = none → cap = 0) ∧ l.length ≤ big ∧ ∀ i, i < l.length → ∃ b off, A = some ⟨b, off, none⟩ ∧ P b ∧ W.cell? ⟨b, off + i, none⟩ = some (.int .i64 (l.getD i 0))
theorem IntsP.ints {W : World} {P : Nat → Prop} {v : Value} {l : List Int} (h : IntsP W P v l) : Ints W v l := by
  obtain ⟨A, cap, rfl, -, hl, hc⟩ := h
  exact ⟨A, cap, rfl, hl, fun i hi => by obtain ⟨b, off, h1, _, h2⟩ := hc i hi; exact ⟨b, off, h1, h2⟩⟩
theorem BoolsP.kept {W W' : World} {P P' : Nat → Prop} {v : Value} {l : List Bool} (h : BoolsP W P v l) (hk : ∀ b, P b → b < W.heap.size → W'.heap[b]? = W.heap[b]?) (hP : ∀ b, P b → b < W.heap.size → P' b) : BoolsP W' P' v l := by
  obtain ⟨A, cap, rfl, hl, hc⟩ := h
  refine ⟨A, cap, rfl, hl, fun i hi => ?_⟩
  obtain ⟨b, off, h1, h2, h3⟩ := hc i hi
  have hb : b < W.heap.size := World.block_lt_of_cell? _ _ h3
  exact ⟨b, off, h1, hP b h2 hb, (World.cell?_of_block (hk b h2 hb)).trans h3⟩
theorem IntsP.kept {W W' : World} {P P' : Nat → Prop} {v : Value} {l : List Int} (h : IntsP W P v l) (hk : ∀ b, P b → b < W.heap.size → W'.heap[b]? = W.heap[b]?) (hP : ∀ b, P b → b < W.heap.size → P' b) : IntsP W' P' v l := by
  obtain ⟨A, cap, rfl, h0, hl, hc⟩ := h
  refine ⟨A, cap, rfl, h0, hl, fun i hi => ?_⟩
  obtain ⟨b, off, h1, h2, h3⟩ := hc i hi
  have hb : b < W.heap.size := World.block_lt_of_cell? _ _ h3
  exact ⟨b, off, h1, hP b h2 hb, (World.cell?_of_block (hk b h2 hb)).trans h3⟩
theorem BoolsP.own {W : World} {n₀ g n c : Nat} {P : Nat → Prop} {l : List Bool} (h : W.ownsRow n₀ 4 1 (.slice (some ⟨g, 0, none⟩) n c) n (l.map fun x => .bool x)) (hl : l.length = n) (hn : n ≤ big) (hP : P g) : BoolsP W P (.slice (some ⟨g, 0, none⟩) n c) l := by
  subst hl
  refine ⟨_, c, rfl, hn, fun i hi => ⟨g, 0, rfl, hP, ?_⟩⟩
  rw [Nat.zero_add, h.cellAt i (by omega)]
  simp [List.getElem?_map, List.getElem?_eq_getElem hi, List.getD_eq_getElem?_getD]
theorem IntsP.own {W : World} {n₀ n : Nat} {v : Value} {P : Nat → Prop} {l : List Int} (h : W.ownsRow n₀ 3 1 v n (l.map fun x => .int .i64 x)) (hl : l.length = n) (hn : n ≤ big) (hP : ∀ g, v.ownBlock = some g → P g) : IntsP W P v l := by
  subst hl
  rcases h.2 with ⟨rfl, h0⟩ | ⟨g, cap, cur, rfl, hg, hh, r⟩
  · exact ⟨none, 0, by rw [h0], fun _ => rfl, hn, fun i hi => by omega⟩
  · refine ⟨_, cap, rfl, (fun e => by cases e), hn, fun i hi => ⟨g, 0, rfl, hP g rfl, ?_⟩⟩
    rw [Nat.zero_add, h.cellAt i (by omega)]
    simp [List.getElem?_map, List.getElem?_eq_getElem hi, List.getD_eq_getElem?_getD]
/-- One set with its word. -/
def EltP (W : World) (P : Nat → Prop) (n : Nat) (vi vw : Value) (e : Nat × List Int) : Prop := BoolsP W P vi (bitL n e.1) ∧ IntsP W P vw e.2
theorem EltP.kept {W W' : World} {P P' : Nat → Prop} {n : Nat} {vi vw : Value} {e : Nat × List Int} (h : EltP W P n vi vw e) (hk : ∀ b, P b → b < W.heap.size → W'.heap[b]? = W.heap[b]?) (hP : ∀ b, P b → b < W.heap.size → P' b) : EltP W' P' n vi vw e :=
  ⟨h.1.kept hk hP, h.2.kept hk hP⟩
theorem EltP.one {W : World} {P : Nat → Prop} {n : Nat} {vi vw : Value} {e : Nat × List Int} (h : EltP W P n vi vw e) : vi.oneCell' = true ∧ vw.oneCell' = true := by
  obtain ⟨⟨A, c, rfl, _⟩, ⟨A', c', rfl, _⟩⟩ := h
  exact ⟨rfl, rfl⟩
/-- All blocks but one are as they were. -/
def KK (mb : Nat) (w w' : World) : Prop := w.heap.size ≤ w'.heap.size ∧ ∀ b, b < w.heap.size → b ≠ mb → w'.heap[b]? = w.heap[b]?
theorem KK.refl (mb : Nat) (w : World) : KK mb w w := ⟨Nat.le_refl _, fun _ _ _ => rfl⟩
theorem KK.trans {mb : Nat} {w w' w'' : World} (h : KK mb w w') (k : KK mb w' w'') : KK mb w w'' :=
  ⟨Nat.le_trans h.1 k.1, fun b hb hne => (k.2 b (Nat.lt_of_lt_of_le hb h.1) hne).trans (h.2 b hb hne)⟩
theorem KK.below {mb n₀ : Nat} {w w' : World} (h : Below n₀ w w') (hn : n₀ = w.heap.size) : KK mb w w' := by
  subst hn
  exact ⟨h.size, fun b hb _ => h.block b hb⟩
theorem KK.step {mb : Nat} {w w' w'' : World} (h : KK mb w w') (k : Below w'.heap.size w' w'') : KK mb w w'' := h.trans (KK.below k rfl)
theorem KK.set {mb o : Nat} {w w' : World} {u : Value} (h : KK mb w w') : KK mb w (w'.setCell ⟨mb, o, none⟩ u) :=
  ⟨by simp [World.setCell]; exact h.1, fun b hb hne => (Below.heap_setCell _ _ _ _ (by simpa using hne)).trans (h.2 b hb hne)⟩
theorem KK.grown {mb n₀ : Nat} {w w' w5 : World} {v : Option Nat} (h : KK mb w w') (hg : w'.grownBy w5 v) (hv : ∀ g, v = some g → w.heap.size ≤ g) : KK mb w w5 :=
  ⟨Nat.le_trans h.1 hg.size, fun b hb hne => (hg.block b (Nat.lt_of_lt_of_le hb h.1) (fun e => by have := hv b e.symm; omega)).trans (h.2 b hb hne)⟩
theorem KK.cell {mb : Nat} {w w' : World} {a : Addr} {u : Value} (h : KK mb w w') (hc : w.cell? a = some u) (hne : a.block ≠ mb) : w'.cell? a = some u :=
  (World.cell?_of_block (h.2 a.block (World.block_lt_of_cell? _ _ hc) hne)).trans hc
section
variable {m : List (List Int)}
end
end Go.Proofs.YtbhhemidnmaodaaDoor
namespace Go.Proofs.YtbhhemidnmaodaaDoor
open Go.RowKit
/-- A list of lists of the call's own: all its blocks are in S. -/
def LaneR (W : World) (base : Nat) (S : Nat → Prop) (v : Value) (m : List (List Int)) : Prop :=
  ∃ xs, W.ownsRow base 27 1 v m.length xs ∧ (∀ g, v.ownBlock = some g → S g) ∧ ∀ i, i < m.length → IntsP W (fun q => S q ∧ some q ≠ v.ownBlock) (xs.getD i .nilIface) (m.getD i [])
theorem LaneR.nil (W : World) (base : Nat) (S : Nat → Prop) : LaneR W base S (.slice none 0 0) [] := ⟨[], ⟨rfl, .inl ⟨rfl, rfl⟩⟩, (fun g h => by cases h), fun i hi => by simp at hi⟩
theorem owns_own {B n : Nat} {e : TypeId} {s : Nat} {v : Value} {xs : List Value} {w w' : World} (h : w.ownsRow B e s v n xs) (hk : ∀ g, v.ownBlock = some g → g < w.heap.size → w'.heap[g]? = w.heap[g]?) : w'.ownsRow B e s v n xs := by
  obtain ⟨h1, h2⟩ := h
  refine ⟨h1, ?_⟩
  rcases h2 with h2 | ⟨g, cap, cur, hv, hB, hh, r⟩
  · exact .inl h2
  · exact .inr ⟨g, cap, cur, hv, hB, by rw [hk g (by rw [hv]; rfl) (lt_of_block hh)]; exact hh, r⟩
theorem LaneR.kept {W W' : World} {base : Nat} {S S' : Nat → Prop} {v : Value} {m : List (List Int)} (h : LaneR W base S v m) (hk : ∀ q, S q → q < W.heap.size → W'.heap[q]? = W.heap[q]?) (hS : ∀ q, S q → S' q) : LaneR W' base S' v m := by
  obtain ⟨xs, ho, hg, hx⟩ := h
  exact ⟨xs, owns_own ho (fun g e hl => hk g (hg g e) hl), fun g e => hS g (hg g e), fun i hi => (hx i hi).kept (fun b hb hl => hk b hb.1 hl) (fun b hb _ => ⟨hS b hb.1, hb.2⟩)⟩
theorem LaneR.shape {W : World} {base : Nat} {S : Nat → Prop} {v : Value} {m : List (List Int)} (h : LaneR W base S v m) : ∃ A c, v = .slice A m.length c := by
  obtain ⟨xs, ho, _⟩ := h
  rcases ho.2 with ⟨rfl, h0⟩ | ⟨g, cap, cur, rfl, _⟩
  · exact ⟨none, 0, by rw [h0]⟩
  · exact ⟨_, cap, rfl⟩
theorem LaneR.rows {W : World} {base : Nat} {S : Nat → Prop} {v : Value} {m : List (List Int)} (h : LaneR W base S v m) (hl : m.length ≤ big) : Rows W v m := by
  obtain ⟨xs, ho, _, hx⟩ := h
  have hxl : xs.length = m.length := by have := ho.1; omega
  rcases ho.2 with ⟨rfl, h0⟩ | ⟨g, cap, cur, rfl, hb, hg, hn, hc, hs, ht⟩
  · exact ⟨none, 0, by rw [h0], hl, fun i hi => by omega⟩
  · refine ⟨some ⟨g, 0, none⟩, cap, rfl, hl, fun i hi => ⟨g, 0, xs.getD i .nilIface, rfl, ?_, (hx i hi).ints⟩⟩
    have h1 : xs[i]? = some (xs.getD i .nilIface) := by
      simp [List.getElem?_eq_getElem (show i < xs.length by omega), List.getD_eq_getElem?_getD]
    rw [← ht, List.getElem?_take, if_pos (by omega)] at h1
    simp only [World.cell?, hg]
    rw [← ht]
    simpa using h1
/-- An append of a row that lies beside. -/
theorem LaneR.append {W : World} {base : Nat} {S : Nat → Prop} {v r : Value} {m : List (List Int)} {l : List Int} (h : LaneR W base S v m) (hr : IntsP W (fun q => S q ∧ some q ≠ v.ownBlock) r l) (hSlt : ∀ q, S q → q < W.heap.size) (b : Nat) (hb : W.heap[b]? = some (.cells #[r] 27 (0, 0))) (hlen : m.length ≤ 10000) (hbase : base ≤ W.heap.size) (ty : TypeId) :
    ∃ g cap W', (Builtin.append_ #[22, 22] ty #[v, .slice (some ⟨b, 0, none⟩) 1 1]).run Tryd.prog W = .ok (.slice (some ⟨g, 0, none⟩) (m.length + 1) cap) W' ∧ LaneR W' base (fun q => S q ∨ (W.heap.size ≤ q ∧ q < W'.heap.size)) (.slice (some ⟨g, 0, none⟩) (m.length + 1) cap) (m ++ [l]) ∧ W.grownBy W' v.ownBlock := by
  obtain ⟨i0, hi, hz0, hz1, hz2⟩ := info_parts infoRow
  obtain ⟨xs, ho, hg, hx⟩ := h
  have hxl : xs.length = m.length := by have := ho.1; omega
  have hone : r.oneCell' = true := by obtain ⟨A, c, rfl, _⟩ := hr; rfl
  obtain ⟨v', W', hrun, hown, hgrow, _, hat⟩ := run_append_own_at (P := Tryd.prog) W base 22 ty 27 i0 (.slice none 0 0) 1 24 Tryd.underlying22 hi hz0 hz1 hz2 rfl (by decide) v m.length xs ho ⟨b, 0, none⟩ 1 1 [r] rfl (fun j u hu => by
    obtain rfl : j = 0 := by have := (List.getElem?_eq_some_iff.1 hu).1; simp at this; omega
    simp at hu
    subst hu
    simp [Addr.add, World.cell?, hb]) (fun u hu => by rw [List.mem_singleton.1 hu]; exact hone) (by unfold maxLen; omega) (by omega) hbase
  obtain ⟨g, cap, rfl⟩ := ownsRow_succ hown
  refine ⟨g, cap, W', hrun, ⟨xs ++ [r], by simpa using hown, fun q hq => ?_, fun i hi => ?_⟩, hgrow⟩
  · rcases hat with h1 | h1
    · exact .inl (hg q (h1 ▸ hq))
    · refine .inr ⟨?_, ?_⟩
      · rw [h1] at hq
        have : W.heap.size = q := by simpa using hq
        omega
      · cases hq
        exact (by
          rcases hown.2 with ⟨h', _⟩ | ⟨g', cap', cur, h', hb', hh, _⟩
          · cases h'
          · cases h'; exact lt_of_block hh)
  · have key : ∀ {x : Value} {r : List Int}, IntsP W (fun q => S q ∧ some q ≠ v.ownBlock) x r → IntsP W' (fun q => (S q ∨ (W.heap.size ≤ q ∧ q < W'.heap.size)) ∧ some q ≠ (Value.slice (some ⟨g, 0, none⟩) (m.length + 1) cap).ownBlock) x r := by
      intro x r h
      refine h.kept (fun q hq hl => hgrow.block q hl hq.2) (fun q hq hl => ⟨.inl hq.1, fun e => ?_⟩)
      rcases hat with h1 | h1
      · exact hq.2 (e.trans h1)
      · rw [h1] at e
        have : q = W.heap.size := by simpa using e
        omega
    simp only [List.length_append, List.length_cons, List.length_nil] at hi
    by_cases hil : i < m.length
    · have e1 : (xs ++ [r]).getD i .nilIface = xs.getD i .nilIface := by simp [List.getD_eq_getElem?_getD, List.getElem?_append_left (show i < xs.length by omega)]
      have e2 : (m ++ [l]).getD i [] = m.getD i [] := by simp [List.getD_eq_getElem?_getD, List.getElem?_append_left hil]
      rw [e1, e2]
      exact key (hx i hil)
    · obtain rfl : i = m.length := by omega
      have e1 : (xs ++ [r]).getD m.length .nilIface = r := by rw [← hxl]; simp [List.getD_eq_getElem?_getD]
      have e2 : (m ++ [l]).getD m.length [] = l := by simp [List.getD_eq_getElem?_getD]
      rw [e1, e2]
      exact key hr
/-- Where one of the two lists stands. -/
structure LaneSt (W : World) (base : Nat) (S : Nat → Prop) (v : Value) (m : List (List Int)) (r : Value) (l : List Int) (Lb La : Bool) (ub ua : Value) : Prop where
  old : La = false → LaneR W base S v m ∧ IntsP W (fun q => S q ∧ some q ≠ v.ownBlock) r l
  built : La = false → Lb = true → ∃ b, ub = .slice (some ⟨b, 0, none⟩) 1 1 ∧ W.heap[b]? = some (.cells #[r] 27 (0, 0)) ∧ S b
  new : La = true → ∃ g cap, ua = .slice (some ⟨g, 0, none⟩) (m.length + 1) cap ∧ LaneR W base S (.slice (some ⟨g, 0, none⟩) (m.length + 1) cap) (m ++ [l])
theorem LaneSt.kept {W W' : World} {base : Nat} {S S' : Nat → Prop} {v : Value} {m : List (List Int)} {r : Value} {l : List Int} {Lb La : Bool} {ub ua : Value} (h : LaneSt W base S v m r l Lb La ub ua) (hk : ∀ q, S q → q < W.heap.size → W'.heap[q]? = W.heap[q]?) (hS : ∀ q, S q → S' q) : LaneSt W' base S' v m r l Lb La ub ua := by
  refine ⟨fun e => ?_, fun e e2 => ?_, fun e => ?_⟩
  · obtain ⟨h1, h2⟩ := h.old e
    exact ⟨h1.kept hk hS, h2.kept (fun b hb hl => hk b hb.1 hl) (fun b hb _ => ⟨hS b hb.1, hb.2⟩)⟩
  · obtain ⟨b, h1, h2, h3⟩ := h.built e e2
    exact ⟨b, h1, (hk b h3 (lt_of_block h2)).trans h2, hS b h3⟩
  · obtain ⟨g, cap, h1, h2⟩ := h.new e
    exact ⟨g, cap, h1, h2.kept hk hS⟩
/-- All blocks below base but Bx are as they were. -/
structure FrB (base Bx : Nat) (w w' : World) : Prop where
  os : w'.os = w.os
  tape : w'.tape = w.tape
  output : w'.output = w.output
  size : w.heap.size ≤ w'.heap.size
  block : ∀ k, k < base → k ≠ Bx → w'.heap[k]? = w.heap[k]?
theorem FrB.below {base Bx n : Nat} {w w' : World} (h : FrB base Bx w w') (h1 : n ≤ base) (h2 : n ≤ Bx) : Below n w w' := ⟨h.os, h.tape, h.output, h.size, fun k hk => h.block k (by omega) (by omega)⟩
theorem FrB.trans {base Bx : Nat} {w w' w'' : World} (h : FrB base Bx w w') (k : FrB base Bx w' w'') : FrB base Bx w w'' := ⟨k.os.trans h.os, k.tape.trans h.tape, k.output.trans h.output, Nat.le_trans h.size k.size, fun q h1 h2 => (k.block q h1 h2).trans (h.block q h1 h2)⟩
theorem FrB.of_below {base Bx n : Nat} {w w' : World} (h : Below n w w') (hn : base ≤ n) : FrB base Bx w w' := ⟨h.os, h.tape, h.output, h.size, fun k hk _ => h.block k (by omega)⟩
structure Ix where
  b1 : Nat
  a1 : Nat
  s1 : Nat
  b2 : Nat
  a2 : Nat
  s2 : Nat
structure LArgs where
  y0 : World
  base : Nat
  Bx : Nat
  T : TypeId
  v1 : Value
  m1 : List (List Int)
  r1 : Value
  l1 : List Int
  v2 : Value
  m2 : List (List Int)
  r2 : Value
  l2 : List Int
structure LN (l : List Oper) (c : Nat → Option Value) (x : Ix) (g : LArgs) (L : Nat → Bool) (u : Nat → Value) (W : World) : Prop where
  val : ∀ i z, c i = some z → L i = true → u i = z
  clo : ∀ i o, l[i]? = some o → L i = true → ∀ e ∈ o.after, Region.binds .any e = true → L e.on = true
  fr : FrB g.base g.Bx g.y0 W
  lanes : ∃ S1 S2 : Nat → Prop, (∀ q, S1 q → S2 q → False) ∧ (∀ q, S1 q ∨ S2 q → g.base ≤ q ∧ q < W.heap.size) ∧ LaneSt W g.base S1 g.v1 g.m1 g.r1 g.l1 (L x.b1) (L x.a1) (u x.b1) (u x.a1) ∧ LaneSt W g.base S2 g.v2 g.m2 g.r2 g.l2 (L x.b2) (L x.a2) (u x.b2) (u x.a2)
  box : W.heap[g.Bx]? = some (.cells #[if L x.s1 then u x.a1 else g.v1, if L x.s2 then u x.a2 else g.v2] g.T (0, 0))
def LArgs.ok (g : LArgs) : Prop := g.Bx < g.base ∧ g.base ≤ g.y0.heap.size ∧ g.m1.length ≤ 10000 ∧ g.m2.length ≤ 10000
def Ix.list (x : Ix) : List Nat := [x.b1, x.a1, x.s1, x.b2, x.a2, x.s2]
/-- Which operations wait for which. -/
def Ix.fits (x : Ix) (l : List Oper) (c : Nat → Option Value) : Bool :=
  decide x.list.Nodup && (reachO l l.length [x.a1]).contains x.b1 && (reachO l l.length [x.s1]).contains x.a1 && (reachO l l.length [x.a2]).contains x.b2 && (reachO l l.length [x.s2]).contains x.a2 && x.list.all (fun i => (c i).isNone && decide (i < l.length))
section
variable {l : List Oper} {c : Nat → Option Value} {x : Ix} {g : LArgs} {L : Nat → Bool} {u : Nat → Value} {W : World}
theorem LN.no (h : LN l c x g L u W) {i j : Nat} (hr : (reachO l l.length [j]).contains i = true) (hL : L i = false) : L j = false := by
  cases hj : L j with
  | false => rfl
  | true =>
    have := reachO_sub h.clo l.length [j] (fun k hk => by rw [List.mem_singleton.1 hk]; exact hj) i (by simpa using hr)
    rw [hL] at this; cases this
theorem LN.clo' (h : LN l c x g L u W) {i : Nat} {o : Oper} (ho : l[i]? = some o) (hpre : ∀ e ∈ o.after, Region.binds .any e = true → L e.on = true) : ∀ i' o', l[i']? = some o' → updB L i i' = true → ∀ e ∈ o'.after, Region.binds .any e = true → updB L i e.on = true := by
  intro i' o' ho' hi e he hb
  have : L e.on = true := by
    by_cases e1 : i' = i
    · subst e1; rw [ho] at ho'; cases ho'; exact hpre e he hb
    · rw [updB_ne e1] at hi; exact h.clo i' o' ho' hi e he hb
  unfold updB; split
  · rfl
  · exact this
theorem fits_parts (hf : x.fits l c = true) : x.list.Nodup ∧ (reachO l l.length [x.a1]).contains x.b1 = true ∧ (reachO l l.length [x.s1]).contains x.a1 = true ∧ (reachO l l.length [x.a2]).contains x.b2 = true ∧ (reachO l l.length [x.s2]).contains x.a2 = true ∧ ∀ i ∈ x.list, c i = none ∧ i < l.length := by
  simp only [Ix.fits, Bool.and_eq_true, decide_eq_true_eq, List.all_eq_true] at hf
  obtain ⟨⟨⟨⟨⟨a, b⟩, d⟩, e⟩, f⟩, k⟩ := hf
  exact ⟨a, b, d, e, f, fun i hi => by have := k i hi; simpa using this⟩
theorem nodup_six (h : x.list.Nodup) : x.b1 ≠ x.a1 ∧ x.b1 ≠ x.s1 ∧ x.b1 ≠ x.b2 ∧ x.b1 ≠ x.a2 ∧ x.b1 ≠ x.s2 ∧ x.a1 ≠ x.s1 ∧ x.a1 ≠ x.b2 ∧ x.a1 ≠ x.a2 ∧ x.a1 ≠ x.s2 ∧ x.s1 ≠ x.b2 ∧ x.s1 ≠ x.a2 ∧ x.s1 ≠ x.s2 ∧ x.b2 ≠ x.a2 ∧ x.b2 ≠ x.s2 ∧ x.a2 ≠ x.s2 := by
  simp only [Ix.list, List.nodup_cons, List.mem_cons, List.mem_nil_iff, or_false, not_or] at h
  obtain ⟨⟨a1, a2, a3, a4, a5⟩, ⟨b1, b2, b3, b4⟩, ⟨c1, c2, c3⟩, ⟨d1, d2⟩, e1, -⟩ := h
  exact ⟨a1, a2, a3, a4, a5, b1, b2, b3, b4, c1, c2, c3, d1, d2, e1⟩
theorem nodup_six' (h : x.list.Nodup) : x.b2 ≠ x.a2 ∧ x.b2 ≠ x.s2 ∧ x.b2 ≠ x.b1 ∧ x.b2 ≠ x.a1 ∧ x.b2 ≠ x.s1 ∧ x.a2 ≠ x.s2 ∧ x.a2 ≠ x.b1 ∧ x.a2 ≠ x.a1 ∧ x.a2 ≠ x.s1 ∧ x.s2 ≠ x.b1 ∧ x.s2 ≠ x.a1 ∧ x.s2 ≠ x.s1 ∧ x.b1 ≠ x.a1 ∧ x.b1 ≠ x.s1 ∧ x.a1 ≠ x.s1 := by
  obtain ⟨a1, a2, a3, a4, a5, b1, b2, b3, b4, c1, c2, c3, d1, d2, e1⟩ := nodup_six h
  exact ⟨d1, d2, a3.symm, b2.symm, c1.symm, e1, a4.symm, b3.symm, c2.symm, a5.symm, b4.symm, c3.symm, a1, a2, b1⟩
/-- An operation whose value is known. -/
theorem LN.det (h : LN l c x g L u W) (hf : x.fits l c = true) {i : Nat} {o : Oper} (ho : l[i]? = some o) (hpre : ∀ e ∈ o.after, Region.binds .any e = true → L e.on = true) {z : Value} (hc : c i = some z) : LN l c x g (updB L i) (updV u i z) W := by
  obtain ⟨h1, -, -, -, -, hn⟩ := fits_parts hf
  have hne : ∀ j ∈ x.list, j ≠ i := fun j hj e => by have := (hn j hj).1; rw [e, hc] at this; cases this
  have n1 := hne x.b1 (by simp [Ix.list])
  have n2 := hne x.a1 (by simp [Ix.list])
  have n3 := hne x.s1 (by simp [Ix.list])
  have n4 := hne x.b2 (by simp [Ix.list])
  have n5 := hne x.a2 (by simp [Ix.list])
  have n6 := hne x.s2 (by simp [Ix.list])
  refine ⟨fun j y hy hj => ?_, h.clo' ho hpre, h.fr, ?_, ?_⟩
  · by_cases e : j = i
    · subst e; rw [hc] at hy; cases hy; exact updV_self _ _ _
    · rw [updB_ne e] at hj; rw [updV_ne e]; exact h.val j y hy hj
  · rw [updB_ne n1, updB_ne n2, updB_ne n4, updB_ne n5, updV_ne n1, updV_ne n2, updV_ne n4, updV_ne n5]; exact h.lanes
  · rw [updB_ne n3, updB_ne n6, updV_ne n2, updV_ne n5]; exact h.box
theorem LN.val' (h : LN l c x g L u W) (hf : x.fits l c = true) {i : Nat} (hi : i ∈ x.list) {z : Value} : ∀ j y, c j = some y → updB L i j = true → updV u i z j = y := by
  obtain ⟨h1, -, -, -, -, hn⟩ := fits_parts hf
  intro j y hy hj
  by_cases e : j = i
  · subst e; rw [(hn j hi).1] at hy; cases hy
  · rw [updB_ne e] at hj; rw [updV_ne e]; exact h.val j y hy hj
/-- The row is made. -/
theorem LN.build1 (h : LN l c x g L u W) (hf : x.fits l c = true) (hk : g.ok) {o : Oper} (ho : l[x.b1]? = some o) (hpre : ∀ e ∈ o.after, Region.binds .any e = true → L e.on = true) (hL : L x.b1 = false) : LN l c x g (updB L x.b1) (updV u x.b1 (.slice (some ⟨W.heap.size, 0, none⟩) 1 1)) (W.alloc (.cells #[g.r1] 27)) := by
  obtain ⟨h1, hr1, hr2, hr3, hr4, hn⟩ := fits_parts hf
  obtain ⟨k1, k2, k3, k4⟩ := hk
  have hla := h.no hr1 hL
  obtain ⟨n1, n2, n3, n4, n5, n6, n7, n8, n9, n10, n11, n12, n13, n14, n15⟩ := nodup_six h1
  have hs := h.fr.size
  refine ⟨h.val' hf (by simp [Ix.list]), h.clo' ho hpre, h.fr.trans (FrB.of_below (Below.alloc (Below.refl W.heap.size W) (Nat.le_refl _) _) (by omega)), ?_, ?_⟩
  · obtain ⟨S1, S2, hd, hb, ls1, ls2⟩ := h.lanes
    have hkp : ∀ (S : Nat → Prop), (∀ q, S q → q < W.heap.size) → ∀ q, S q → q < W.heap.size → (W.alloc (.cells #[g.r1] 27)).heap[q]? = W.heap[q]? := fun S hS q hq _ => Below.heap_alloc _ _ _ (hS q hq)
    refine ⟨fun q => S1 q ∨ q = W.heap.size, S2, fun q hq hq2 => ?_, fun q hq => ?_, ?_, ?_⟩
    · rcases hq with hq | hq
      · exact hd q hq hq2
      · have := (hb q (.inr hq2)).2; omega
    · rcases hq with (hq | hq) | hq
      · have := hb q (.inl hq); simp; omega
      · simp; omega
      · have := hb q (.inr hq); simp; omega
    · have ls := ls1.kept (S' := fun q => S1 q ∨ q = W.heap.size) (hkp S1 (fun q hq => (hb q (.inl hq)).2)) (fun q hq => .inl hq)
      rw [updB_ne n1.symm, updV_ne n1.symm, updB_self, updV_self]
      exact ⟨ls.old, fun _ _ => ⟨W.heap.size, rfl, World.alloc_heap_new _ _, .inr rfl⟩, ls.new⟩
    · rw [updB_ne n3.symm, updB_ne n4.symm, updV_ne n3.symm, updV_ne n4.symm]
      exact ls2.kept (hkp S2 (fun q hq => (hb q (.inr hq)).2)) (fun q hq => hq)
  · rw [updB_ne n2.symm, updB_ne n5.symm, updV_ne n1.symm, updV_ne n4.symm, Below.heap_alloc _ _ _ (by omega)]; exact h.box
/-- The row is appended. -/
theorem LN.app1 (h : LN l c x g L u W) (hf : x.fits l c = true) (hk : g.ok) {o : Oper} (ho : l[x.a1]? = some o) (hpre : ∀ e ∈ o.after, Region.binds .any e = true → L e.on = true) (hL : L x.a1 = false) {F : Act} {s y : Operand} {ops : Array Oper} {K : Act → World → Prop} {Q : Exit → Act → World → Prop} {E : Prop} (hg : o.guard = none)
    (hop : o.op = .call { callee := .builtin .append, args := #[s, y], argTypes := #[22, 22] }) (hs : F.eval s = g.v1) (hy : F.eval y = u x.b1) (hb1 : L x.b1 = true)
    (hK : ∀ v w', LN l c x g (updB L x.a1) (updV u x.a1 v) w' → K (F.put o.dst v) w') : if Region.wanted o (yielded ops F.tmps) = true then Oper.wp Tryd.prog o F W K Q else E := by
  obtain ⟨h1, hr1, hr2, hr3, hr4, hn⟩ := fits_parts hf
  obtain ⟨k1, k2, k3, k4⟩ := hk
  have hls := h.no hr2 hL
  obtain ⟨n1, n2, n3, n4, n5, n6, n7, n8, n9, n10, n11, n12, n13, n14, n15⟩ := nodup_six h1
  have hsz := h.fr.size
  obtain ⟨S1, S2, hd, hb, ls1, ls2⟩ := h.lanes
  obtain ⟨q1, q2⟩ := ls1.old hL
  obtain ⟨b, q3, q4, q5⟩ := ls1.built hL hb1
  rw [q3] at hy
  obtain ⟨gg, cap, W', hrun, hR, hgr⟩ := q1.append q2 (fun q hq => (hb q (.inl hq)).2) b q4 k3 (by omega) o.type
  rw [if_pos (by simp [Region.wanted, hg])]
  unfold Oper.wp execOp
  simp only [hop, resolve, invoke, builtin, Sem.run_bind, Sem.run_pure, Result.andThen_ok, List.map_toArray, List.map_cons, List.map_nil, hs, hy, hrun]
  refine hK _ _ ⟨h.val' hf (by simp [Ix.list]), h.clo' ho hpre, h.fr.trans ⟨hgr.os, hgr.tape, hgr.output, hgr.size, fun q hq hne => hgr.block q (by omega) (fun e => ?_)⟩, ?_, ?_⟩
  · obtain ⟨xs, ho', hS', _⟩ := q1
    have := (hb q (.inl (hS' q e.symm))).1
    omega
  · have hs2 : ∀ q, S2 q → q < W.heap.size → W'.heap[q]? = W.heap[q]? := fun q hq hl => hgr.block q hl (fun e => by
      obtain ⟨xs, ho', hS', _⟩ := q1
      exact hd q (hS' q e.symm) hq)
    refine ⟨fun q => S1 q ∨ (W.heap.size ≤ q ∧ q < W'.heap.size), S2, fun q hq hq2 => ?_, fun q hq => ?_, ?_, ?_⟩
    · rcases hq with hq | hq
      · exact hd q hq hq2
      · have := (hb q (.inr hq2)).2; omega
    · have := hgr.size
      rcases hq with (hq | hq) | hq
      · have := hb q (.inl hq); omega
      · omega
      · have := hb q (.inr hq); omega
    · rw [updB_self, updV_self]
      exact ⟨fun e => (by cases e), fun e => (by cases e), fun _ => ⟨gg, cap, rfl, hR⟩⟩
    · rw [updB_ne n7.symm, updB_ne n8.symm, updV_ne n7.symm, updV_ne n8.symm]
      exact ls2.kept hs2 (fun q hq => hq)
  · have hbx : W'.heap[g.Bx]? = W.heap[g.Bx]? := hgr.block g.Bx (by omega) (fun e => by
      obtain ⟨xs, ho', hS', _⟩ := q1
      have := (hb _ (.inl (hS' _ e.symm))).1
      omega)
    have hb' := h.box
    rw [hls] at hb'
    rw [hbx, updB_ne n6.symm, updB_ne n9.symm, updV_ne n8.symm, hls]
    exact hb'
theorem LN.apped1 (h : LN l c x g L u W) (hf : x.fits l c = true) (hL : L x.a1 = true) : ∃ b cap, u x.a1 = .slice (some ⟨b, 0, none⟩) (g.m1.length + 1) cap := by
  obtain ⟨S1, S2, hd, hb, ls1, ls2⟩ := h.lanes
  obtain ⟨b, cap, e, _⟩ := ls1.new hL
  exact ⟨b, cap, e⟩
/-- The field is stored. -/
theorem LN.store1 (h : LN l c x g L u W) (hf : x.fits l c = true) (hk : g.ok) {o : Oper} (ho : l[x.s1]? = some o) (hpre : ∀ e ∈ o.after, Region.binds .any e = true → L e.on = true) : LN l c x g (updB L x.s1) (updV u x.s1 undef) (W.setCell ⟨g.Bx, 0, none⟩ (u x.a1)) := by
  obtain ⟨h1, hr1, hr2, hr3, hr4, hn⟩ := fits_parts hf
  obtain ⟨k1, k2, k3, k4⟩ := hk
  obtain ⟨n1, n2, n3, n4, n5, n6, n7, n8, n9, n10, n11, n12, n13, n14, n15⟩ := nodup_six h1
  have hsz : (W.setCell ⟨g.Bx, 0, none⟩ (u x.a1)).heap.size = W.heap.size := by simp [World.setCell]
  have hoth : ∀ q, q ≠ g.Bx → (W.setCell ⟨g.Bx, 0, none⟩ (u x.a1)).heap[q]? = W.heap[q]? := fun q hq => Below.heap_setCell _ _ _ _ hq
  refine ⟨h.val' hf (by simp [Ix.list]), h.clo' ho hpre, h.fr.trans ⟨rfl, rfl, rfl, Nat.le_of_eq hsz.symm, fun q hq hne => hoth q hne⟩, ?_, ?_⟩
  · obtain ⟨S1, S2, hd, hb, ls1, ls2⟩ := h.lanes
    rw [updB_ne n2, updB_ne n6, updB_ne n10.symm, updB_ne n11.symm, updV_ne n2, updV_ne n6, updV_ne n10.symm, updV_ne n11.symm]
    refine ⟨S1, S2, hd, fun q hq => by rw [hsz]; exact hb q hq, ls1.kept (fun q hq _ => hoth q (fun e => ?_)) (fun q hq => hq), ls2.kept (fun q hq _ => hoth q (fun e => ?_)) (fun q hq => hq)⟩
    · have := (hb q (.inl hq)).1; omega
    · have := (hb q (.inr hq)).1; omega
  · rw [updB_self, updB_ne n12.symm, updV_ne n6, updV_ne n11.symm]
    have := heap_setCell_same W g.Bx 0 _ _ (u x.a1) h.box
    simpa using this
/-- The row is made. -/
theorem LN.build2 (h : LN l c x g L u W) (hf : x.fits l c = true) (hk : g.ok) {o : Oper} (ho : l[x.b2]? = some o) (hpre : ∀ e ∈ o.after, Region.binds .any e = true → L e.on = true) (hL : L x.b2 = false) : LN l c x g (updB L x.b2) (updV u x.b2 (.slice (some ⟨W.heap.size, 0, none⟩) 1 1)) (W.alloc (.cells #[g.r2] 27)) := by
  obtain ⟨h1, hr1, hr2, hr3, hr4, hn⟩ := fits_parts hf
  obtain ⟨k1, k2, k3, k4⟩ := hk
  have hla := h.no hr3 hL
  obtain ⟨n1, n2, n3, n4, n5, n6, n7, n8, n9, n10, n11, n12, n13, n14, n15⟩ := nodup_six' h1
  have hs := h.fr.size
  refine ⟨h.val' hf (by simp [Ix.list]), h.clo' ho hpre, h.fr.trans (FrB.of_below (Below.alloc (Below.refl W.heap.size W) (Nat.le_refl _) _) (by omega)), ?_, ?_⟩
  · obtain ⟨S2, S1, hd0, hb0, ls2, ls1⟩ := h.lanes
    have hd : ∀ q, S1 q → S2 q → False := fun q h1 h2 => hd0 q h2 h1
    have hb : ∀ q, S1 q ∨ S2 q → g.base ≤ q ∧ q < W.heap.size := fun q h => hb0 q h.symm
    have hkp : ∀ (S : Nat → Prop), (∀ q, S q → q < W.heap.size) → ∀ q, S q → q < W.heap.size → (W.alloc (.cells #[g.r2] 27)).heap[q]? = W.heap[q]? := fun S hS q hq _ => Below.heap_alloc _ _ _ (hS q hq)
    refine ⟨S2, fun q => S1 q ∨ q = W.heap.size, fun q hq2 hq => ?_, fun q hq => ?_, ?lb, ?la⟩
    · rcases hq with hq | hq
      · exact hd q hq hq2
      · have := (hb q (.inr hq2)).2; omega
    · rcases hq.symm with (hq | hq) | hq
      · have := hb q (.inl hq); simp; omega
      · simp; omega
      · have := hb q (.inr hq); simp; omega
    case la =>
      have ls := ls1.kept (S' := fun q => S1 q ∨ q = W.heap.size) (hkp S1 (fun q hq => (hb q (.inl hq)).2)) (fun q hq => .inl hq)
      rw [updB_ne n1.symm, updV_ne n1.symm, updB_self, updV_self]
      exact ⟨ls.old, fun _ _ => ⟨W.heap.size, rfl, World.alloc_heap_new _ _, .inr rfl⟩, ls.new⟩
    case lb =>
      rw [updB_ne n3.symm, updB_ne n4.symm, updV_ne n3.symm, updV_ne n4.symm]
      exact ls2.kept (hkp S2 (fun q hq => (hb q (.inr hq)).2)) (fun q hq => hq)
  · rw [updB_ne n2.symm, updB_ne n5.symm, updV_ne n1.symm, updV_ne n4.symm, Below.heap_alloc _ _ _ (by omega)]; exact h.box
/-- The row is appended. -/
theorem LN.app2 (h : LN l c x g L u W) (hf : x.fits l c = true) (hk : g.ok) {o : Oper} (ho : l[x.a2]? = some o) (hpre : ∀ e ∈ o.after, Region.binds .any e = true → L e.on = true) (hL : L x.a2 = false) {F : Act} {s y : Operand} {ops : Array Oper} {K : Act → World → Prop} {Q : Exit → Act → World → Prop} {E : Prop} (hg : o.guard = none)
    (hop : o.op = .call { callee := .builtin .append, args := #[s, y], argTypes := #[22, 22] }) (hs : F.eval s = g.v2) (hy : F.eval y = u x.b2) (hb1 : L x.b2 = true)
    (hK : ∀ v w', LN l c x g (updB L x.a2) (updV u x.a2 v) w' → K (F.put o.dst v) w') : if Region.wanted o (yielded ops F.tmps) = true then Oper.wp Tryd.prog o F W K Q else E := by
  obtain ⟨h1, hr1, hr2, hr3, hr4, hn⟩ := fits_parts hf
  obtain ⟨k1, k2, k3, k4⟩ := hk
  have hls := h.no hr4 hL
  obtain ⟨n1, n2, n3, n4, n5, n6, n7, n8, n9, n10, n11, n12, n13, n14, n15⟩ := nodup_six' h1
  have hsz := h.fr.size
  obtain ⟨S2, S1, hd0, hb0, ls2, ls1⟩ := h.lanes
  have hd : ∀ q, S1 q → S2 q → False := fun q h1 h2 => hd0 q h2 h1
  have hb : ∀ q, S1 q ∨ S2 q → g.base ≤ q ∧ q < W.heap.size := fun q h => hb0 q h.symm
  obtain ⟨q1, q2⟩ := ls1.old hL
  obtain ⟨b, q3, q4, q5⟩ := ls1.built hL hb1
  rw [q3] at hy
  obtain ⟨gg, cap, W', hrun, hR, hgr⟩ := q1.append q2 (fun q hq => (hb q (.inl hq)).2) b q4 k4 (by omega) o.type
  rw [if_pos (by simp [Region.wanted, hg])]
  unfold Oper.wp execOp
  simp only [hop, resolve, invoke, builtin, Sem.run_bind, Sem.run_pure, Result.andThen_ok, List.map_toArray, List.map_cons, List.map_nil, hs, hy, hrun]
  refine hK _ _ ⟨h.val' hf (by simp [Ix.list]), h.clo' ho hpre, h.fr.trans ⟨hgr.os, hgr.tape, hgr.output, hgr.size, fun q hq hne => hgr.block q (by omega) (fun e => ?_)⟩, ?_, ?_⟩
  · obtain ⟨xs, ho', hS', _⟩ := q1
    have := (hb q (.inl (hS' q e.symm))).1
    omega
  · have hs2 : ∀ q, S2 q → q < W.heap.size → W'.heap[q]? = W.heap[q]? := fun q hq hl => hgr.block q hl (fun e => by
      obtain ⟨xs, ho', hS', _⟩ := q1
      exact hd q (hS' q e.symm) hq)
    refine ⟨S2, fun q => S1 q ∨ (W.heap.size ≤ q ∧ q < W'.heap.size), fun q hq2 hq => ?_, fun q hq => ?_, ?lb, ?la⟩
    · rcases hq with hq | hq
      · exact hd q hq hq2
      · have := (hb q (.inr hq2)).2; omega
    · have := hgr.size
      rcases hq.symm with (hq | hq) | hq
      · have := hb q (.inl hq); omega
      · omega
      · have := hb q (.inr hq); omega
    case la =>
      rw [updB_self, updV_self]
      exact ⟨fun e => (by cases e), fun e => (by cases e), fun _ => ⟨gg, cap, rfl, hR⟩⟩
    case lb =>
      rw [updB_ne n7.symm, updB_ne n8.symm, updV_ne n7.symm, updV_ne n8.symm]
      exact ls2.kept hs2 (fun q hq => hq)
  · have hbx : W'.heap[g.Bx]? = W.heap[g.Bx]? := hgr.block g.Bx (by omega) (fun e => by
      obtain ⟨xs, ho', hS', _⟩ := q1
      have := (hb _ (.inl (hS' _ e.symm))).1
      omega)
    have hb' := h.box
    rw [hls] at hb'
    rw [hbx, updB_ne n6.symm, updB_ne n9.symm, updV_ne n8.symm, hls]
    exact hb'
theorem LN.apped2 (h : LN l c x g L u W) (hf : x.fits l c = true) (hL : L x.a2 = true) : ∃ b cap, u x.a2 = .slice (some ⟨b, 0, none⟩) (g.m2.length + 1) cap := by
  obtain ⟨S2, S1, hd0, hb0, ls2, ls1⟩ := h.lanes
  have hd : ∀ q, S1 q → S2 q → False := fun q h1 h2 => hd0 q h2 h1
  have hb : ∀ q, S1 q ∨ S2 q → g.base ≤ q ∧ q < W.heap.size := fun q h => hb0 q h.symm
  obtain ⟨b, cap, e, _⟩ := ls1.new hL
  exact ⟨b, cap, e⟩
/-- The field is stored. -/
theorem LN.store2 (h : LN l c x g L u W) (hf : x.fits l c = true) (hk : g.ok) {o : Oper} (ho : l[x.s2]? = some o) (hpre : ∀ e ∈ o.after, Region.binds .any e = true → L e.on = true) : LN l c x g (updB L x.s2) (updV u x.s2 undef) (W.setCell ⟨g.Bx, 1, none⟩ (u x.a2)) := by
  obtain ⟨h1, hr1, hr2, hr3, hr4, hn⟩ := fits_parts hf
  obtain ⟨k1, k2, k3, k4⟩ := hk
  obtain ⟨n1, n2, n3, n4, n5, n6, n7, n8, n9, n10, n11, n12, n13, n14, n15⟩ := nodup_six' h1
  have hsz : (W.setCell ⟨g.Bx, 1, none⟩ (u x.a2)).heap.size = W.heap.size := by simp [World.setCell]
  have hoth : ∀ q, q ≠ g.Bx → (W.setCell ⟨g.Bx, 1, none⟩ (u x.a2)).heap[q]? = W.heap[q]? := fun q hq => Below.heap_setCell _ _ _ _ hq
  refine ⟨h.val' hf (by simp [Ix.list]), h.clo' ho hpre, h.fr.trans ⟨rfl, rfl, rfl, Nat.le_of_eq hsz.symm, fun q hq hne => hoth q hne⟩, ?_, ?_⟩
  · obtain ⟨S2, S1, hd0, hb0, ls2, ls1⟩ := h.lanes
    have hd : ∀ q, S1 q → S2 q → False := fun q h1 h2 => hd0 q h2 h1
    have hb : ∀ q, S1 q ∨ S2 q → g.base ≤ q ∧ q < W.heap.size := fun q h => hb0 q h.symm
    rw [updB_ne n2, updB_ne n6, updB_ne n10.symm, updB_ne n11.symm, updV_ne n2, updV_ne n6, updV_ne n10.symm, updV_ne n11.symm]
    refine ⟨S2, S1, hd0, fun q hq => by rw [hsz]; exact hb0 q hq, ls2.kept (fun q hq _ => hoth q (fun e => ?_)) (fun q hq => hq), ls1.kept (fun q hq _ => hoth q (fun e => ?_)) (fun q hq => hq)⟩
    · have := (hb q (.inr hq)).1; omega
    · have := (hb q (.inl hq)).1; omega
  · rw [updB_self, updB_ne n12.symm, updV_ne n6, updV_ne n11.symm]
    have := heap_setCell_same W g.Bx 1 _ _ (u x.a2) h.box
    simpa using this
theorem dep_of {o : Oper} (hpre : ∀ e ∈ o.after, Region.binds .any e = true → L e.on = true) {j : Nat} (hd : depB o j = true) : L j = true := by
  simp only [depB, Array.any_eq_true] at hd
  obtain ⟨q, hq, he⟩ := hd
  rw [Bool.and_eq_true, beq_iff_eq] at he
  have := hpre _ (Array.getElem_mem hq) he.2
  rwa [he.1] at this
theorem LN.start {y : World} (hy : g.y0 = y) (hbox : y.heap[g.Bx]? = some (.cells #[g.v1, g.v2] g.T (0, 0))) (h : ∃ S1 S2 : Nat → Prop, (∀ q, S1 q → S2 q → False) ∧ (∀ q, S1 q ∨ S2 q → g.base ≤ q ∧ q < y.heap.size) ∧ (LaneR y g.base S1 g.v1 g.m1 ∧ IntsP y (fun q => S1 q ∧ some q ≠ g.v1.ownBlock) g.r1 g.l1) ∧ (LaneR y g.base S2 g.v2 g.m2 ∧ IntsP y (fun q => S2 q ∧ some q ≠ g.v2.ownBlock) g.r2 g.l2)) : LN l c x g (fun _ => false) u y.drew := by
  obtain ⟨S1, S2, hd, hb, ⟨a1, b1⟩, a2, b2⟩ := h
  refine ⟨fun i z _ h => (by cases h), fun i o _ h => (by cases h), ⟨by rw [hy]; rfl, by rw [hy]; rfl, by rw [hy]; rfl, by rw [hy]; exact Nat.le_refl _, fun q _ _ => by rw [hy]; rfl⟩, ⟨S1, S2, hd, hb, ⟨fun _ => ⟨a1.kept (fun q _ _ => rfl) (fun q h => h), b1.kept (fun q _ _ => rfl) (fun q h _ => h)⟩, fun _ e => (by cases e), fun e => (by cases e)⟩, ⟨fun _ => ⟨a2.kept (fun q _ _ => rfl) (fun q h => h), b2.kept (fun q _ _ => rfl) (fun q h _ => h)⟩, fun _ e => (by cases e), fun e => (by cases e)⟩⟩, ?_⟩
  exact hbox
theorem LN.load1 (h : LN l c x g L u W) (hL : L x.s1 = false) : W.cell? ⟨g.Bx, 0, none⟩ = some g.v1 := by
  have := h.box
  rw [hL] at this
  simp [World.cell?, this]
theorem LN.load2 (h : LN l c x g L u W) (hL : L x.s2 = false) : W.cell? ⟨g.Bx, 1, none⟩ = some g.v2 := by
  have := h.box
  rw [hL] at this
  simp [World.cell?, this]
theorem LN.cells (h : LN l c x g L u W) : (∃ p, W.cell? ⟨g.Bx, 0, none⟩ = some p) ∧ (∃ p, W.cell? ⟨g.Bx, 1, none⟩ = some p) ∧ W.frozen? ⟨g.Bx, 0, none⟩ = false ∧ W.frozen? ⟨g.Bx, 1, none⟩ = false := by
  have := h.box
  exact ⟨⟨_, by simp [World.cell?, this]; rfl⟩, ⟨_, by simp [World.cell?, this]; rfl⟩, by simp [World.frozen?, this], by simp [World.frozen?, this]⟩
/-- Two lists of lists that lie beside each other. -/
def TwoL (W : World) (base : Nat) (v1 : Value) (m1 : List (List Int)) (v2 : Value) (m2 : List (List Int)) : Prop :=
  ∃ S1 S2 : Nat → Prop, (∀ q, S1 q → S2 q → False) ∧ (∀ q, S1 q ∨ S2 q → base ≤ q ∧ q < W.heap.size) ∧ LaneR W base S1 v1 m1 ∧ LaneR W base S2 v2 m2
theorem TwoL.kept {W W' : World} {base : Nat} {v1 v2 : Value} {m1 m2 : List (List Int)} (h : TwoL W base v1 m1 v2 m2) (hs : W.heap.size ≤ W'.heap.size) (hk : ∀ q, base ≤ q → q < W.heap.size → W'.heap[q]? = W.heap[q]?) : TwoL W' base v1 m1 v2 m2 := by
  obtain ⟨S1, S2, hd, hb, a, b⟩ := h
  exact ⟨S1, S2, hd, fun q hq => by have := hb q hq; omega, a.kept (fun q hq hl => hk q (hb q (.inl hq)).1 hl) (fun q h => h), b.kept (fun q hq hl => hk q (hb q (.inr hq)).1 hl) (fun q h => h)⟩
theorem TwoL.nil (W : World) (base : Nat) : TwoL W base (.slice none 0 0) [] (.slice none 0 0) [] := ⟨fun _ => False, fun _ => False, fun _ h => h.elim, fun _ h => h.elim False.elim False.elim, LaneR.nil _ _ _, LaneR.nil _ _ _⟩
theorem LN.done (h : LN l c x g L u W) (h1 : L x.a1 = true) (h2 : L x.a2 = true) (h3 : L x.s1 = true) (h4 : L x.s2 = true) : ∃ b1 c1 b2 c2, u x.a1 = .slice (some ⟨b1, 0, none⟩) (g.m1.length + 1) c1 ∧ u x.a2 = .slice (some ⟨b2, 0, none⟩) (g.m2.length + 1) c2 ∧
    FrB g.base g.Bx g.y0 W ∧ W.heap[g.Bx]? = some (.cells #[.slice (some ⟨b1, 0, none⟩) (g.m1.length + 1) c1, .slice (some ⟨b2, 0, none⟩) (g.m2.length + 1) c2] g.T (0, 0)) ∧ TwoL W g.base (.slice (some ⟨b1, 0, none⟩) (g.m1.length + 1) c1) (g.m1 ++ [g.l1]) (.slice (some ⟨b2, 0, none⟩) (g.m2.length + 1) c2) (g.m2 ++ [g.l2]) := by
  obtain ⟨S1, S2, hd, hb, ls1, ls2⟩ := h.lanes
  obtain ⟨b1, c1, e1, R1⟩ := ls1.new h1
  obtain ⟨b2, c2, e2, R2⟩ := ls2.new h2
  have hbx := h.box
  rw [h3, h4] at hbx
  simp only [if_true] at hbx
  rw [e1, e2] at hbx
  exact ⟨b1, c1, b2, c2, e1, e2, h.fr, hbx, S1, S2, hd, hb, R1, R2⟩
/-- New rows beside the two lists. -/
theorem TwoL.fresh {y : World} {base n : Nat} {v1 v2 r1 r2 : Value} {m1 m2 : List (List Int)} {l1 l2 : List Int} (h : TwoL y base v1 m1 v2 m2) (P1 P2 : Nat → Prop) (hP : ∀ q, P1 q → P2 q → False) (hn : ∀ q, P1 q ∨ P2 q → n ≤ q ∧ q < y.heap.size) (hbn : base ≤ n) (hy : ∃ y1 : World, TwoL y1 base v1 m1 v2 m2 ∧ y1.heap.size ≤ n ∧ ∀ q, base ≤ q → q < n → y.heap[q]? = y1.heap[q]?) (h1 : IntsP y P1 r1 l1) (h2 : IntsP y P2 r2 l2) :
    ∃ S1 S2 : Nat → Prop, (∀ q, S1 q → S2 q → False) ∧ (∀ q, S1 q ∨ S2 q → base ≤ q ∧ q < y.heap.size) ∧ (LaneR y base S1 v1 m1 ∧ IntsP y (fun q => S1 q ∧ some q ≠ v1.ownBlock) r1 l1) ∧ (LaneR y base S2 v2 m2 ∧ IntsP y (fun q => S2 q ∧ some q ≠ v2.ownBlock) r2 l2) := by
  obtain ⟨y1, ⟨S1, S2, hd, hb, a, b⟩, hs, hk⟩ := hy
  have hlt : ∀ q, (S1 q ∨ S2 q) → q < n := fun q hq => by have := (hb q hq).2; omega
  have hy1 : n ≤ y.heap.size ∨ y.heap.size < n := Nat.lt_or_ge _ _ |>.symm
  have hsz : ∀ q, (S1 q ∨ S2 q) → q < y.heap.size := fun q hq => by
    have hq2 := hb q hq
    have hh := hk q hq2.1 (hlt q hq)
    rw [Array.getElem?_eq_getElem hq2.2] at hh
    exact (Array.getElem?_eq_some_iff.1 hh).1
  refine ⟨fun q => S1 q ∨ P1 q, fun q => S2 q ∨ P2 q, fun q hq hq' => ?_, fun q hq => ?_, ⟨a.kept (fun q hq hl => hk q (hb q (.inl hq)).1 (hlt q (.inl hq))) (fun q h => .inl h), h1.kept (fun q _ _ => rfl) (fun q hq _ => ⟨.inr hq, fun e => ?_⟩)⟩, b.kept (fun q hq hl => hk q (hb q (.inr hq)).1 (hlt q (.inr hq))) (fun q h => .inl h), h2.kept (fun q _ _ => rfl) (fun q hq _ => ⟨.inr hq, fun e => ?_⟩)⟩
  · rcases hq with hq | hq <;> rcases hq' with hq' | hq'
    · exact hd q hq hq'
    · have := hlt q (.inl hq); have := (hn q (.inr hq')).1; omega
    · have := hlt q (.inr hq'); have := (hn q (.inl hq)).1; omega
    · exact hP q hq hq'
  · rcases hq with (hq | hq) | (hq | hq)
    · exact ⟨(hb q (.inl hq)).1, hsz q (.inl hq)⟩
    · have := hn q (.inl hq); omega
    · exact ⟨(hb q (.inr hq)).1, hsz q (.inr hq)⟩
    · have := hn q (.inr hq); omega
  · obtain ⟨xs, _, hg, _⟩ := a
    have := hlt q (.inl (hg q e.symm)); have := (hn q (.inl hq)).1; omega
  · obtain ⟨xs, _, hg, _⟩ := b
    have := hlt q (.inr (hg q e.symm)); have := (hn q (.inr hq)).1; omega
theorem wp_region_lanes {Q : Exit → Act → World → Prop} {a : Act} {l : List Oper} (c : Nat → Option Value) (x : Ix) (g : LArgs) {id : Nat} {w : World} (hm : Tryd.prog.follows .mixedOrders = true) (hb : backFrom 0 l = true) (hd : dstsApart l = true) (h0 : LN l c x g (fun _ => false) (heldBy a l) w.drew) (hs : InvFrom Tryd.prog Q a l (LN l c x g) 0 l) (hend : ∀ L u w, (∀ i, i < l.length → L i = true) → LN l c x g L u w → Q .normal (framedFrom a u 0 l) w) :
    (Code.region id l.toArray true).wp Tryd.prog Q a w := wp_region_inv (I := LN l c x g) hm hb hd h0 hs hend
end
end Go.Proofs.YtbhhemidnmaodaaDoor
namespace Go.Proofs.YtbhhemidnmaodaaDoor
open Go.RowKit Go.Shelf
theorem cut_len (l sep : List UInt8) : (Lib.cut l sep).1.length ≤ l.length ∧ (Lib.cut l sep).2.1.length ≤ l.length := by
  unfold Lib.cut
  split
  · simp only [List.length_take, List.length_drop]; omega
  · simp
theorem cells_two (w : World) (g : Nat) (t : TypeId) (a b : Value) (h : w.heap[g]? = some (.cells #[a, b] t (0, 0))) : w.cell? ⟨g, 0, none⟩ = some a ∧ w.cell? ⟨g, 1, none⟩ = some b ∧ w.frozen? ⟨g, 0, none⟩ = false ∧ w.frozen? ⟨g, 1, none⟩ = false := by
  simp [World.cell?, World.frozen?, h]
theorem set_both {W : World} {fb : Nat} {t : TypeId} {a b p q : Value} (h : W.heap[fb]? = some (.cells #[p, q] t (0, 0))) : ((W.setCell ⟨fb, 0, none⟩ a).setCell ⟨fb, 1, none⟩ b).heap[fb]? = some (.cells #[a, b] t (0, 0)) := by
  have h1 := heap_setCell_same W fb 0 _ _ a h
  have h2 := heap_setCell_same (W.setCell ⟨fb, 0, none⟩ a) fb 1 _ _ b h1
  simpa using h2
theorem heap_set_both (W : World) (fb k : Nat) (a b : Value) (hk : k ≠ fb) : ((W.setCell ⟨fb, 0, none⟩ a).setCell ⟨fb, 1, none⟩ b).heap[k]? = W.heap[k]? := (Below.heap_setCell _ _ _ _ hk).trans (Below.heap_setCell _ _ _ _ hk)
theorem below_atoi {w w' : World} {T : TypeId} (h : w' = w ∨ ∃ t : ByteArray, w' = Lib.bytesWorld w T t) : Below w.heap.size w w' := by
  rcases h with rfl | ⟨t, rfl⟩
  · exact Below.refl _ _
  · exact bytes_below _ _ _
set_option maxRecDepth 100000 in
set_option maxHeartbeats 8000000 in
theorem ParseY_ok (s : ByteArray) (m o : List (List Int)) (w : World) (hsh : w.ShapedOpen Tryd.prog) (hrd : ReadsY s m o) (hv : validY m o = true) (ht : strB (textY m o) = s) :
    Calls Tryd.prog 26 #[.string s] w fun e w' => ∃ v u, e = .returned (.tuple #[.agg #[v, u], .int .i64 0]) ∧ Rows w' v m ∧ Rows w' u o ∧ Below w.heap.size w w' := by
  obtain ⟨i0, hi, hz0, hz1, hz2⟩ := info_parts infoRow
  obtain ⟨j0, hj, hy0, hy1, hy2⟩ := info_parts infoInt
  obtain ⟨p1, p2, p3, p4, p6, p5⟩ := rowsY hv
  have hsz := hrd.size
  have hpl := hrd.rows
  have Hrd := hid hrd.line
  have P5 := hid p5
  have P6 := hid p6
  clear hrd p5 p6
  have hszi : ¬ ((s.size : Int) > 2160) := by omega
  go_enter Tryd.func26, Tryd.ntmps26
  go_wp2_with fail
  have hS := Tryd.strings_Split_shaped s ⟨#[32]⟩ _ (shaped_below hsh (bal (bal (Below.refl _ w) (.cells #[.slice none 0 0, .slice none 0 0] 24)) (.cells #[.slice none 0 0, .slice none 0 0] 24))) (by omega) (by show 1 ≤ 1; omega)
  rw [← parts_length, hpl] at hS
  refine hS.mono ?_
  clear hS
  rintro e w1 ⟨rfl, hw1⟩
  obtain ⟨f0, f1, f2⟩ := three_alloc w (.cells #[.slice none 0 0, .slice none 0 0] 24) (.cells #[.slice none 0 0, .slice none 0 0] 24) (.cells ((parts 32 s).map Value.string).toArray 9)
  have hB1 := bal (bal (bal (Below.refl _ w) (.cells #[.slice none 0 0, .slice none 0 0] 24)) (.cells #[.slice none 0 0, .slice none 0 0] 24)) (.cells ((parts 32 s).map Value.string).toArray 9)
  have hsz1 : ((((w.alloc (.cells #[.slice none 0 0, .slice none 0 0] 24)).alloc (.cells #[.slice none 0 0, .slice none 0 0] 24)).alloc (.cells ((parts 32 s).map Value.string).toArray 9))).heap.size = w.heap.size + 3 := by simp
  generalize hW : (((w.alloc (.cells #[.slice none 0 0, .slice none 0 0] 24)).alloc (.cells #[.slice none 0 0, .slice none 0 0] 24)).alloc (.cells ((parts 32 s).map Value.string).toArray 9)) = W at f0 f1 f2 hB1 hsz1
  obtain rfl : w1 = W := hw1.trans hW
  clear hw1 hW
  go_wp2
  go_loopw [25] (fun i wr => ∃ k : Nat, k ≤ m.length ∧ i = .int .i64 k ∧ Below w.heap.size w wr ∧ wr.heap[w.heap.size]? = some (.cells #[.slice none 0 0, .slice none 0 0] 24 (0, 0)) ∧ wr.heap[w.heap.size + 2]? = some (.cells ((parts 32 s).map Value.string).toArray 9 (0, 0)) ∧ w.heap.size + 3 ≤ wr.heap.size ∧ ∃ v u, wr.heap[w.heap.size + 1]? = some (.cells #[v, u] 24 (0, 0)) ∧ TwoL wr (w.heap.size + 3) v (m.take k) u (o.take k)) (fun i _ => m.length - (intOf i).toNat)
  case atStart => exact ⟨0, Nat.zero_le _, rfl, hB1, f0, f2, by omega, _, _, f1, TwoL.nil _ _⟩
  case round =>
    obtain ⟨k, hk, rfl, hB, g0, g2, hbw, v, u, g1, hM⟩ := hrel
    by_cases hlt : k < m.length
    · obtain ⟨q1, q2, q3⟩ := Hrd.out k hlt
      have c1 := cells_get g2 k (by rw [hpl]; exact hlt)
      obtain ⟨q4, q5, q6⟩ := P5.out k hlt
      generalize (parts 32 s).getD k ⟨#[]⟩ = line at *
      have Hm := hid (show m.take (k + 1) = m.take k ++ [m.getD k []] by rw [List.take_succ_eq_append_getElem hlt]; simp [List.getD_eq_getElem?_getD, List.getElem?_eq_getElem hlt])
      have Hmo := hid (show o.take (k + 1) = o.take k ++ [o.getD k []] by rw [List.take_succ_eq_append_getElem (by have := P6.out; omega : k < o.length)]; simp [List.getD_eq_getElem?_getD, List.getElem?_eq_getElem (by have := P6.out; omega : k < o.length)])
      generalize m.getD k [] = row at *
      generalize o.getD k [] = rowo at *
      have Q3 := hid q3
      clear q3 q6
      have hS := Tryd.strings_Split_shaped line ⟨#[46]⟩ wr (shaped_below hsh hB) (by omega) (by show 1 ≤ 1; omega)
      rw [← parts_length, q2, q4] at hS
      obtain ⟨wo, rfl⟩ : ∃ wo : World, wo = wr := ⟨_, rfl⟩
      go_wp2_with fail
      refine hS.mono ?_
      clear hS
      rintro e w2 ⟨rfl, hw2⟩
      have e0 : (wo.alloc (.cells ((parts 46 line).map Value.string).toArray 9)).heap[wo.heap.size]? = some (.cells ((parts 46 line).map Value.string).toArray 9 (0, 0)) := heap_alloc_new _ _
      have hB2 := bal (Below.refl _ wo) (.cells ((parts 46 line).map Value.string).toArray 9)
      have hs2 : (wo.alloc (.cells ((parts 46 line).map Value.string).toArray 9)).heap.size = wo.heap.size + 1 := by simp
      generalize hW : wo.alloc (.cells ((parts 46 line).map Value.string).toArray 9) = W at e0 hB2 hs2
      obtain rfl : w2 = W := hw2.trans hW
      clear hw2 hW
      go_wp2
      go_loopw [7, 8, 32] (fun u ux i wi => ∃ j : Nat, j ≤ letters m ∧ i = .int .i64 j ∧ Below (wo.heap.size + 1) w2 wi ∧ wi.ownsRow (wo.heap.size + 1) 3 1 u j ((row.take j).map fun x => .int .i64 x) ∧ wi.ownsRow (wo.heap.size + 1) 3 1 ux j ((rowo.take j).map fun x => .int .i64 x) ∧ (∀ g, u.ownBlock = some g → ux.ownBlock = some g → False)) (fun _ _ i _ => letters m - (intOf i).toNat)
      case atStart => exact ⟨0, Nat.zero_le _, rfl, Below.refl _ _, ⟨rfl, .inl ⟨rfl, rfl⟩⟩, ⟨rfl, .inl ⟨rfl, rfl⟩⟩, fun g h => by cases h⟩
      case round =>
        obtain ⟨j, hjl, rfl, hB3, ho, hoo, hne⟩ := hrel
        have hbw3 : wo.heap.size + 1 ≤ wr.heap.size := by have := hB3.size; omega
        have g3 : wr.heap[wo.heap.size]? = some (.cells ((parts 46 line).map Value.string).toArray 9 (0, 0)) := (hB3.block _ (by omega)).trans e0
        have hBr : Below w.heap.size w wr := (hB.trans (hB2.mono (by omega))).trans (hB3.mono (by omega))
        by_cases hjlt : j < letters m
        · obtain ⟨r1, r2, r3⟩ := Q3.out j (by omega)
          have c2 := cells_get g3 j (by rw [q2]; omega)
          have Hj := hid (map_take_succ row j (by omega))
          have Hjo := hid (map_take_succ rowo j (by omega))
          generalize (parts 46 line).getD j ⟨#[]⟩ = f at *
          generalize row.getD j 0 = q at *
          generalize rowo.getD j 0 = qo at *
          obtain ⟨l1, l2⟩ := cut_len f.data.toList [47]
          have lf := size_list f
          have hS := Tryd.strings_Cut_shaped f ⟨#[47]⟩ wr (shaped_below hsh hBr) (by omega)
          obtain ⟨z1, hz1⟩ : ∃ z : ByteArray, (⟨(Lib.cut f.data.toList (⟨#[47]⟩ : ByteArray).data.toList).1.toArray⟩ : ByteArray) = z := ⟨_, rfl⟩
          obtain ⟨z2, hz2'⟩ : ∃ z : ByteArray, (⟨(Lib.cut f.data.toList (⟨#[47]⟩ : ByteArray).data.toList).2.1.toArray⟩ : ByteArray) = z := ⟨_, rfl⟩
          have s1 : z1.size ≤ 2160 := by rw [← hz1]; show ((Lib.cut f.data.toList [47]).1.toArray).size ≤ 2160; simp; omega
          have s2 : z2.size ≤ 2160 := by rw [← hz2']; show ((Lib.cut f.data.toList [47]).2.1.toArray).size ≤ 2160; simp; omega
          have a1 : Lib.atoiAll z1.data.toList = .ok q := by rw [← hz1]; exact r2
          have a2 : Lib.atoiAll z2.data.toList = .ok qo := by rw [← hz2']; exact r3
          rw [hz1, hz2'] at hS
          clear r2 r3 hz1 hz2' l1 l2
          go_wp2_with fail
          refine hS.mono ?_
          clear hS
          rintro e w3 ⟨rfl, nd, rfl⟩
          go_wp2_with fail
          refine (Tryd.strconv_Atoi_ok z1 (by omega) q a1 _).mono ?_
          rintro e w4 ⟨rfl, hw4⟩
          have hB4 := btr (below_dr wr nd) (below_atoi hw4)
          clear hw4
          go_wp2_with fail
          refine (Tryd.strconv_Atoi_ok z2 (by omega) qo a2 _).mono ?_
          rintro e w5 ⟨rfl, hw5⟩
          have hB5 := btr hB4 (below_atoi hw5)
          clear hw5 hB4
          have ho5 := owns_kept ho (fun k _ hk => hB5.block k hk)
          have hoo5 := owns_kept hoo (fun k _ hk => hB5.block k hk)
          have hs5 := hB5.size
          have ho5b := row_blk2 ho5
          have hoo5b := row_blk2 hoo5
          go_wp2_with (at_builtin; first
            | (refine wpList_append_own_at _ rfl _ _ 27 rfl (wo.heap.size + 1) 3 j0 (.int .i64 0) 1 8 Tryd.underlying27 hj hy0 hy1 hy2 rfl (by decide) u7 _ _ rfl (ho5.alloc _) ⟨w5.heap.size, 0, none⟩ 1 1 [.int .i64 q] rfl rfl (cell_one_new _ _ _) (by simp [Value.oneCell']) (by unfold maxLen; omega) (by omega) (by simp; omega) ?_
               intro v6 w6 hown6 hgrow6 _ hat6
               have hs6 := hgrow6.size
               rw [World.size_alloc] at hs6
               have hoo6 : w6.ownsRow (wo.heap.size + 1) 3 1 u8 j ((rowo.take j).map fun x => .int .i64 x) := owns_own hoo5 (fun g hg hl => (hgrow6.block g (by simp; omega) (fun e => hne g e.symm hg)).trans (Below.heap_alloc _ _ _ hl)))
            | (refine wpList_append_own_at _ rfl _ _ 27 rfl (wo.heap.size + 1) 3 j0 (.int .i64 0) 1 8 Tryd.underlying27 hj hy0 hy1 hy2 rfl (by decide) u8 _ _ rfl (hoo6.alloc _) ⟨w6.heap.size, 0, none⟩ 1 1 [.int .i64 qo] rfl rfl (cell_one_new _ _ _) (by simp [Value.oneCell']) (by unfold maxLen; omega) (by omega) (by simp; omega) ?_
               intro v7 w7 hown7 hgrow7 _ hat7))
          have hs7 := hgrow7.size
          rw [World.size_alloc] at hs7
          have hb6 := row_blk2 hown6
          have hv67 : ∀ g, v6.ownBlock = some g → v7.ownBlock = some g → False := by
            intro g e6 e7
            have hg6 := (hb6 g e6).2
            rcases hat7 with h7 | h7
            · rw [h7] at e7
              rcases hat6 with h6 | h6
              · rw [h6] at e6; exact hne g e6 e7
              · rw [h6] at e6
                have h1 := (hoo5b g e7).2
                have h2 : (w5.alloc (.cells #[.int .i64 q] 3)).heap.size = g := by simpa using e6
                rw [World.size_alloc] at h2
                omega
            · rw [h7] at e7
              have h2 : (w6.alloc (.cells #[.int .i64 qo] 3)).heap.size = g := by simpa using e7
              rw [World.size_alloc] at h2
              omega
          have hown6' : w7.ownsRow (wo.heap.size + 1) 3 1 v6 (j + 1) ((row.take j).map (fun x => Value.int .i64 x) ++ [.int .i64 q]) := owns_own hown6 (fun g hg hl => (hgrow7.block g (by simp; omega) (fun e => by
            rcases hat6 with h6 | h6
            · rw [h6] at hg; exact hne g hg e.symm
            · rw [h6] at hg
              have h1 := (hoo5b g e.symm).2
              have h2 : (w5.alloc (.cells #[.int .i64 q] 3)).heap.size = g := by simpa using hg
              rw [World.size_alloc] at h2
              omega)).trans (Below.heap_alloc _ _ _ hl))
          go_roundw
          case rel =>
            refine ⟨j + 1, by omega, by go_num, ?_, by rw [Hj.out]; exact hown6', by rw [Hjo.out]; exact hown7, hv67⟩
            refine ((((hB3.trans (hB5.mono hbw3)).alloc (by omega) _).grown hgrow6 (by simp; omega) (fun g hg => (ho5b g hg).1)).alloc (by omega) _).grown hgrow7 (by simp; omega) (fun g hg => (hoo5b g hg).1)
          case measure => simp [intOf]; omega
        · obtain rfl : j = letters m := by omega
          have hrowe : (row.take (letters m)).map (fun x => Value.int .i64 x) = row.map fun x => .int .i64 x := by rw [List.take_of_length_le (by omega)]
          have hrowo : (rowo.take (letters m)).map (fun x => Value.int .i64 x) = rowo.map fun x => .int .i64 x := by rw [List.take_of_length_le (by omega)]
          rw [hrowe] at ho
          rw [hrowo] at hoo
          obtain ⟨A7, c7, rfl⟩ : ∃ A c, u7 = .slice A (letters m) c := by
            rcases ho.2 with ⟨hu, h0⟩ | ⟨g, cap, cur, hu, _⟩
            · exact ⟨none, 0, by rw [hu, h0]⟩
            · exact ⟨_, cap, hu⟩
          obtain ⟨A8, c8, rfl⟩ : ∃ A c, u8 = .slice A (letters m) c := by
            rcases hoo.2 with ⟨hu, h0⟩ | ⟨g, cap, cur, hu, _⟩
            · exact ⟨none, 0, by rw [hu, h0]⟩
            · exact ⟨_, cap, hu⟩
          have b7 := row_blk2 ho
          have b8 := row_blk2 hoo
          have hM1 : TwoL wr (w.heap.size + 3) v (m.take k) u (o.take k) := hM.kept (by omega) (fun q _ hq => (hB3.block q (by omega)).trans (hB2.block q hq))
          have hst := hM1.fresh (n := wo.heap.size) (fun q => (Value.slice A7 (letters m) c7).ownBlock = some q) (fun q => (Value.slice A8 (letters m) c8).ownBlock = some q) hne (fun q hq => by
            rcases hq with hq | hq
            · have := b7 q hq; omega
            · have := b8 q hq; omega) hbw ⟨wo, hM, Nat.le_refl _, fun q _ hq => (hB3.block q (by omega)).trans (hB2.block q hq)⟩
            (IntsP.own ho (by omega) (by unfold big; omega) (fun g hg => hg)) (IntsP.own hoo (by omega) (by unfold big; omega) (fun g hg => hg))
          have hbb : wr.heap[w.heap.size + 1]? = some (.cells #[v, u] 24 (0, 0)) := (hB3.block _ (by omega)).trans ((hB2.block _ (by omega)).trans g1)
          have Hb0 := hid (show wr.heap[w.heap.size]? = some (.cells #[.slice none 0 0, .slice none 0 0] 24 (0, 0)) from (hB3.block _ (by omega)).trans ((hB2.block _ (by omega)).trans g0))
          have Hb2 := hid (show wr.heap[w.heap.size + 2]? = some (.cells ((parts 32 s).map Value.string).toArray 9 (0, 0)) from (hB3.block _ (by omega)).trans ((hB2.block _ (by omega)).trans g2))
          have hgok : LArgs.ok ⟨wr, w.heap.size + 3, w.heap.size + 1, 24, v, m.take k, .slice A7 (letters m) c7, row, u, o.take k, .slice A8 (letters m) c8, rowo⟩ := ⟨by show w.heap.size + 1 < w.heap.size + 3; omega, by show w.heap.size + 3 ≤ wr.heap.size; omega, by show (m.take k).length ≤ 10000; simp; omega, by show (o.take k).length ≤ 10000; have := P6.out; simp; omega⟩
          have Hst := hid hst
          have Hbb := hid hbb
          clear hst hbb ho hoo b7 b8 hM hM1 hrowe hrowo hne g0 g1 g2 g3 f0 f1 f2 e0
          go_upto_region 18 with fail
          refine wp_region_lanes (fun i => ([some (.pointer (some ⟨w.heap.size + 1, 0, none⟩)), some (v), some (.slice A7 (letters m) c7), none, none, some (.pointer (some ⟨w.heap.size + 1, 1, none⟩)), some (u), some (.slice A8 (letters m) c8), none, none, some (.pointer (some ⟨w.heap.size + 1, 0, none⟩)), none, some (.pointer (some ⟨w.heap.size + 1, 1, none⟩)), none] : List (Option Value)).getD i none) ⟨3, 4, 11, 8, 9, 13⟩ ⟨wr, (w.heap.size + 3), (w.heap.size + 1), 24, v, (m.take k), (.slice A7 (letters m) c7), row, u, (o.take k), (.slice A8 (letters m) c8), rowo⟩ rfl (by kernel_rfl) (by kernel_rfl) ?_ ?_ ?_
          · exact LN.start rfl Hbb.out Hst.out
          · refine ⟨?_, ?_, ?_, ?_, ?_, ?_, ?_, ?_, ?_, ?_, ?_, ?_, ?_, ?_, trivial⟩
            all_goals (intro L uu W hL hpre hI K hK; generalize hF : framedFrom _ uu 0 _ = F at *)
            · skip
              have f4 : F.eval (.tmp 4) = .pointer (some ⟨w.heap.size + 1, 0, none⟩) := by rw [← hF]; exact (framed_old (s := 4) _ _ _ (by kernel_rfl)).trans (by kernel_rfl)
              simp [Act.eval] at f4
              exact op_run rfl (.pointer (some ⟨w.heap.size + 1, 0, none⟩)) W (by simp [execOp, go_sem, f4]) (hK _ _ (hI.det (by kernel_rfl) rfl hpre rfl))
            · skip
              have f68 : F.eval (.tmp 68) = .pointer (some ⟨w.heap.size + 1, 0, none⟩) := by rw [← hF]; exact (framed_new (d := 68) _ _ _ 0 (by kernel_rfl) (of_decide_eq_true (by kernel_rfl)) (by kernel_rfl)).trans (hI.val 0 _ rfl (dep_of hpre (j := 0) (by kernel_rfl)))
              simp [Act.eval] at f68
              have q9 := hI.load1 (hI.no (j := 11) (by kernel_rfl) hL)
              simp only at q9
              exact op_run rfl (v) W (by simp [execOp, go_sem, f68, q9]) (hK _ _ (hI.det (by kernel_rfl) rfl hpre rfl))
            · skip
              have f7 : F.eval (.tmp 7) = .slice A7 (letters m) c7 := by rw [← hF]; exact (framed_old (s := 7) _ _ _ (by kernel_rfl)).trans (by kernel_rfl)
              simp [Act.eval] at f7
              exact op_run rfl (.slice A7 (letters m) c7) W (by simp [execOp, go_sem, f7]) (hK _ _ (hI.det (by kernel_rfl) rfl hpre rfl))
            · skip
              have f70 : F.eval (.tmp 70) = .slice A7 (letters m) c7 := by rw [← hF]; exact (framed_new (d := 70) _ _ _ 2 (by kernel_rfl) (of_decide_eq_true (by kernel_rfl)) (by kernel_rfl)).trans (hI.val 2 _ rfl (dep_of hpre (j := 2) (by kernel_rfl)))
              simp [Act.eval] at f70
              refine op_run rfl (.slice (some ⟨W.heap.size, 0, none⟩) 1 1) (W.alloc (.cells #[(.slice A7 (letters m) c7)] 27)) (by simp [execOp, go_sem, f70]) (hK _ _ (hI.build1 (by kernel_rfl) hgok rfl hpre hL))
            · skip
              have f69 : F.eval (.tmp 69) = v := by rw [← hF]; exact (framed_new (d := 69) _ _ _ 1 (by kernel_rfl) (of_decide_eq_true (by kernel_rfl)) (by kernel_rfl)).trans (hI.val 1 _ rfl (dep_of hpre (j := 1) (by kernel_rfl)))
              have f71 : F.eval (.tmp 71) = uu 3 := by rw [← hF]; exact framed_new (d := 71) _ _ _ 3 (by kernel_rfl) (of_decide_eq_true (by kernel_rfl)) (by kernel_rfl)
              exact hI.app1 (by kernel_rfl) hgok rfl hpre hL rfl rfl f69 f71 (dep_of hpre (j := 3) (by kernel_rfl)) hK
            · skip
              have f4 : F.eval (.tmp 4) = .pointer (some ⟨w.heap.size + 1, 0, none⟩) := by rw [← hF]; exact (framed_old (s := 4) _ _ _ (by kernel_rfl)).trans (by kernel_rfl)
              simp [Act.eval] at f4
              exact op_run rfl (.pointer (some ⟨w.heap.size + 1, 1, none⟩)) W (by simp [execOp, go_sem, f4]) (hK _ _ (hI.det (by kernel_rfl) rfl hpre rfl))
            · skip
              have f73 : F.eval (.tmp 73) = .pointer (some ⟨w.heap.size + 1, 1, none⟩) := by rw [← hF]; exact (framed_new (d := 73) _ _ _ 5 (by kernel_rfl) (of_decide_eq_true (by kernel_rfl)) (by kernel_rfl)).trans (hI.val 5 _ rfl (dep_of hpre (j := 5) (by kernel_rfl)))
              simp [Act.eval] at f73
              have q9 := hI.load2 (hI.no (j := 13) (by kernel_rfl) hL)
              simp only at q9
              exact op_run rfl (u) W (by simp [execOp, go_sem, f73, q9]) (hK _ _ (hI.det (by kernel_rfl) rfl hpre rfl))
            · skip
              have f8 : F.eval (.tmp 8) = .slice A8 (letters m) c8 := by rw [← hF]; exact (framed_old (s := 8) _ _ _ (by kernel_rfl)).trans (by kernel_rfl)
              simp [Act.eval] at f8
              exact op_run rfl (.slice A8 (letters m) c8) W (by simp [execOp, go_sem, f8]) (hK _ _ (hI.det (by kernel_rfl) rfl hpre rfl))
            · skip
              have f75 : F.eval (.tmp 75) = .slice A8 (letters m) c8 := by rw [← hF]; exact (framed_new (d := 75) _ _ _ 7 (by kernel_rfl) (of_decide_eq_true (by kernel_rfl)) (by kernel_rfl)).trans (hI.val 7 _ rfl (dep_of hpre (j := 7) (by kernel_rfl)))
              simp [Act.eval] at f75
              refine op_run rfl (.slice (some ⟨W.heap.size, 0, none⟩) 1 1) (W.alloc (.cells #[(.slice A8 (letters m) c8)] 27)) (by simp [execOp, go_sem, f75]) (hK _ _ (hI.build2 (by kernel_rfl) hgok rfl hpre hL))
            · skip
              have f74 : F.eval (.tmp 74) = u := by rw [← hF]; exact (framed_new (d := 74) _ _ _ 6 (by kernel_rfl) (of_decide_eq_true (by kernel_rfl)) (by kernel_rfl)).trans (hI.val 6 _ rfl (dep_of hpre (j := 6) (by kernel_rfl)))
              have f76 : F.eval (.tmp 76) = uu 8 := by rw [← hF]; exact framed_new (d := 76) _ _ _ 8 (by kernel_rfl) (of_decide_eq_true (by kernel_rfl)) (by kernel_rfl)
              exact hI.app2 (by kernel_rfl) hgok rfl hpre hL rfl rfl f74 f76 (dep_of hpre (j := 8) (by kernel_rfl)) hK
            · skip
              have f4 : F.eval (.tmp 4) = .pointer (some ⟨w.heap.size + 1, 0, none⟩) := by rw [← hF]; exact (framed_old (s := 4) _ _ _ (by kernel_rfl)).trans (by kernel_rfl)
              simp [Act.eval] at f4
              exact op_run rfl (.pointer (some ⟨w.heap.size + 1, 0, none⟩)) W (by simp [execOp, go_sem, f4]) (hK _ _ (hI.det (by kernel_rfl) rfl hpre rfl))
            · skip
              have f78 : F.eval (.tmp 78) = .pointer (some ⟨w.heap.size + 1, 0, none⟩) := by rw [← hF]; exact (framed_new (d := 78) _ _ _ 10 (by kernel_rfl) (of_decide_eq_true (by kernel_rfl)) (by kernel_rfl)).trans (hI.val 10 _ rfl (dep_of hpre (j := 10) (by kernel_rfl)))
              have f72 : F.eval (.tmp 72) = uu 4 := by rw [← hF]; exact framed_new (d := 72) _ _ _ 4 (by kernel_rfl) (of_decide_eq_true (by kernel_rfl)) (by kernel_rfl)
              simp [Act.eval] at f78 f72
              obtain ⟨bb, cc, ee⟩ := hI.apped1 (by kernel_rfl) (dep_of hpre (j := 4) (by kernel_rfl))
              simp only at ee
              obtain ⟨⟨q0, k0⟩, ⟨q1, k1⟩, z0, z1⟩ := hI.cells
              simp only at k0 k1 z0 z1
              rw [ee] at f72
              refine op_skip rfl (W.setCell ⟨(w.heap.size + 1), 0, none⟩ (uu 4)) (by rw [ee]; simp [execOp, go_sem, f78, f72, k0, k1, z0, z1]) (hK undef _ (hI.store1 (by kernel_rfl) hgok rfl hpre))
            · skip
              have f4 : F.eval (.tmp 4) = .pointer (some ⟨w.heap.size + 1, 0, none⟩) := by rw [← hF]; exact (framed_old (s := 4) _ _ _ (by kernel_rfl)).trans (by kernel_rfl)
              simp [Act.eval] at f4
              exact op_run rfl (.pointer (some ⟨w.heap.size + 1, 1, none⟩)) W (by simp [execOp, go_sem, f4]) (hK _ _ (hI.det (by kernel_rfl) rfl hpre rfl))
            · skip
              have f79 : F.eval (.tmp 79) = .pointer (some ⟨w.heap.size + 1, 1, none⟩) := by rw [← hF]; exact (framed_new (d := 79) _ _ _ 12 (by kernel_rfl) (of_decide_eq_true (by kernel_rfl)) (by kernel_rfl)).trans (hI.val 12 _ rfl (dep_of hpre (j := 12) (by kernel_rfl)))
              have f77 : F.eval (.tmp 77) = uu 9 := by rw [← hF]; exact framed_new (d := 77) _ _ _ 9 (by kernel_rfl) (of_decide_eq_true (by kernel_rfl)) (by kernel_rfl)
              simp [Act.eval] at f79 f77
              obtain ⟨bb, cc, ee⟩ := hI.apped2 (by kernel_rfl) (dep_of hpre (j := 9) (by kernel_rfl))
              simp only at ee
              obtain ⟨⟨q0, k0⟩, ⟨q1, k1⟩, z0, z1⟩ := hI.cells
              simp only at k0 k1 z0 z1
              rw [ee] at f77
              refine op_skip rfl (W.setCell ⟨(w.heap.size + 1), 1, none⟩ (uu 9)) (by rw [ee]; simp [execOp, go_sem, f79, f77, k0, k1, z0, z1]) (hK undef _ (hI.store2 (by kernel_rfl) hgok rfl hpre))
          · intro L uu W hall hI
            obtain ⟨g1, cap1, g2, cap2, e1, e2, hfr, hbx, hTwo⟩ := hI.done (hall 4 (by decide)) (hall 9 (by decide)) (hall 11 (by decide)) (hall 13 (by decide))
            clear hI
            simp only at hfr hbx hTwo
            clear hall
            simp only [framedFrom, Act.put, List.setIfInBounds_toArray, List.set_cons_succ, List.set_cons_zero]
            go_wp2_with fail
            go_roundw
            case rel =>
              have hsw := hfr.size
              refine ⟨k + 1, by omega, by go_num, hBr.trans (hfr.below (by omega) (by omega)), (hfr.block _ (by omega) (by omega)).trans Hb0.out, (hfr.block _ (by omega) (by omega)).trans Hb2.out, by omega, _, _, hbx, ?_⟩
              rw [Hm.out, Hmo.out]
              exact hTwo
            case measure => simp [intOf]; omega
    · obtain rfl : k = m.length := by omega
      have hkl : m.take m.length = m := List.take_of_length_le (Nat.le_refl _)
      have hkl2 : o.take m.length = o := List.take_of_length_le (by rw [P6.out]; exact Nat.le_refl _)
      rw [hkl, hkl2] at hM
      obtain ⟨S1, S2, hd, hb, L1, L2⟩ := id hM
      obtain ⟨vA, vc, rfl⟩ := L1.shape
      obtain ⟨uA, uc, rfl⟩ := L2.shape
      have hR1 := L1.rows (by unfold big; omega)
      have hR2 := L2.rows (by have := P6.out; unfold big; omega)
      have hbl0 : w.heap.size < wr.heap.size := by omega
      have hbl : w.heap.size + 1 < wr.heap.size := by omega
      obtain ⟨c1, c2, -, -⟩ := cells_two _ _ _ _ _ g1
      have G0 := hid g0
      have HM := hid hM
      clear hsz g0 g1 g2 hM L1 L2 hd hb f0 f1 f2
      go_wp2_with fail
      refine (ValidY_bool _ _ m o true wr hR1 hR2 hv).mono ?_
      rintro e w4 ⟨rfl, hb4⟩
      have d1 := (hb4.cell (p := ⟨w.heap.size + 1, 0, none⟩) hbl).trans c1
      have d2 := (hb4.cell (p := ⟨w.heap.size + 1, 1, none⟩) hbl).trans c2
      have hs4 := hb4.size
      have htx := textY_any _ _ m o w4 (hR1.below hb4) (hR2.below hb4) hv
      rw [ht] at htx
      go_wp2_with fail
      refine htx.mono ?_
      clear htx
      rintro e w5 ⟨rfl, hb5⟩
      have hs5 := hb5.size
      have hb45 := hb4.trans (hb5.mono hs4)
      have e1 := (hb45.cell (p := ⟨w.heap.size + 1, 0, none⟩) hbl).trans c1
      have e2 := (hb45.cell (p := ⟨w.heap.size + 1, 1, none⟩) hbl).trans c2
      have g5 := (hb45.block _ hbl0).trans G0.out
      obtain ⟨k1, k2, k3, k4⟩ := cells_two _ _ _ _ _ g5
      have g6 := set_both (a := .slice vA m.length vc) (b := .slice uA o.length uc) g5
      obtain ⟨n1, n2, -, -⟩ := cells_two _ _ _ _ _ g6
      have hTw := HM.out.kept (W' := (w5.setCell ⟨w.heap.size, 0, none⟩ (.slice vA m.length vc)).setCell ⟨w.heap.size, 1, none⟩ (.slice uA o.length uc)) (by simp [World.setCell]; omega) (fun q hq hs => (heap_set_both _ _ _ _ _ (by omega)).trans (hb45.block q hs))
      obtain ⟨S1, S2, -, -, L1, L2⟩ := hTw
      have HR1 := hid (L1.rows (by unfold big; omega))
      have HR2 := hid (L2.rows (by have := P6.out; unfold big; omega))
      have HB := hid ((((hB.trans (hb45.mono (by omega))).setCell (p := ⟨w.heap.size, 0, none⟩) (Nat.le_refl _) (.slice vA m.length vc)).setCell (p := ⟨w.heap.size, 1, none⟩) (Nat.le_refl _) (.slice uA o.length uc)))
      clear g5 g6 L1 L2
      go_wp2
      (try simp only [Exit.inBlock, Exit.then])
      refine bodyPost_ret (v := .tuple #[.agg #[.slice vA m.length vc, .slice uA o.length uc], .int .i64 0]) ?_ rfl ⟨_, _, rfl, HR1.out, HR2.out, HB.out⟩
      rw [results_cell_tmp rfl]
      go_simp
end Go.Proofs.YtbhhemidnmaodaaDoor
namespace Go.Proofs.YtbhhemidnmaodaaDoor
open Go.RowKit Go.Shelf
/-- How a place reads as a pair of numbers. -/
structure Cd where
  x : Int → Int
  y : Int → Int
def Cd.ok (c : Cd) (n : Nat) : Prop := (∀ p : Nat, p < n → -1 ≤ c.x p ∧ c.x p ≤ 1000 ∧ -1 ≤ c.y p ∧ c.y p ≤ 1000) ∧ ∀ p q : Nat, p < n → q < n → c.x p = c.x q → c.y p = c.y q → p = q
def Cd.val (c : Cd) (p : Int) : Value := .agg #[.int .i64 (c.x p), .int .i64 (c.y p)]
/-- Steps in memory. -/
def StepsAtQ (c : Cd) (w : World) (v : Value) (B : Steps) : Prop :=
  ∃ A cap, v = .slice A B.length cap ∧ B.length ≤ 100000 ∧ ∀ i, i < B.length → ∃ b off, A = some ⟨b, off, none⟩ ∧ w.cell? ⟨b, off + i * 4, none⟩ = some (.int .i64 (c.x (plB B i))) ∧ w.cell? ⟨b, off + i * 4 + 1, none⟩ = some (.int .i64 (c.y (plB B i))) ∧ w.cell? ⟨b, off + i * 4 + 2, none⟩ = some (.int .i64 (frB B i)) ∧ w.cell? ⟨b, off + i * 4 + 3, none⟩ = some (.int .i64 (leB B i))
set_option maxRecDepth 100000 in
set_option maxHeartbeats 1000000 in
theorem spell_anyQ (c : Cd) (v : Value) (B : Steps) (i : Nat) (w : World) (h : StepsAtQ c w v B) (hB : TreeB B) (hi : i < B.length) :
    Calls Tryd.prog 72 #[v, .int .i64 i] w fun e w' => ∃ r, e = .returned r ∧ w'.ownsRow w.heap.size 3 1 r (wordB B i).length ((wordB B i).map fun x => .int .i64 x) ∧ Below w.heap.size w w' := by
  obtain ⟨j0, hj, hy0, hy1, hy2⟩ := info_parts infoInt
  obtain ⟨A, cap, rfl, hl, hc⟩ := h
  have Hc := hid hc
  have HB := hid hB
  have hwl := wordB_len hB i hi
  obtain ⟨N, hN⟩ : ∃ N, (wordB B i).length = N := ⟨_, rfl⟩
  have HN := hid hN
  have hNb : N ≤ 100000 := by omega
  clear hc hB hN hwl
  go_enter Tryd.func72, Tryd.ntmps72
  go_wp2
  go_loop [5, 6] (fun l j => ∃ (L jj : Nat), l = .int .i64 L ∧ j = .int .i64 jj ∧ jj < B.length ∧ L + (wordB B jj).length = N) (fun _ j => (intOf j).toNat)
  case atStart => exact ⟨0, i, rfl, rfl, hi, by rw [HN.out]; omega⟩
  case round =>
    obtain ⟨L, jj, rfl, rfl, hjj, hL⟩ := hrel
    obtain ⟨b, off, hA, k1, k1y, k2, k3⟩ := Hc.out jj hjj
    subst hA
    have hjs : (jj : Int) < B.length := by omega
    have hLb : L ≤ 100000 := by omega
    by_cases h0 : jj = 0
    · subst h0
      have hL0 : L = N := by rw [wordB_root HB.out] at hL; simpa using hL
      subst hL0
      have hfr := HB.out.2.1
      rw [hfr] at k2
      clear hL hfr
      go_wp2_with (at_make; refine wpList_make_full _ rfl _ _ 27 rfl w.heap.size 3 j0 (.int .i64 0) 1 Tryd.underlying27 hj hy0 hy1 .i64 .i64 _ _ L rfl rfl rfl rfl (by rw [hy2]; omega) (by unfold maxLen; omega) (Nat.le_refl _) ?_; intro w1 hown hgrow)
      have hB1 : Below w.heap.size w w1 := (Below.refl _ _).grown hgrow (Nat.le_refl _) (fun q hq => by cases hq)
      rw [show Value.cells (.int .i64 0) = #[.int .i64 0] from rfl, toList_madeCells_one, Nat.mul_one] at hown
      have hh0 : List.replicate L (Value.int .i64 0) = halfRow (wordB B i) L := by
        unfold halfRow
        rw [List.drop_of_length_le (by rw [HN.out]; exact Nat.le_refl _)]; simp
      rw [hh0] at hown
      clear k1 k2 k3 hh0
      go_loopw [1, 5] (fun x y wr => ∃ (j l : Nat), x = .int .i64 j ∧ y = .int .i64 l ∧ j < B.length ∧ l = (wordB B j).length ∧ l ≤ L ∧ (wordB B i).take l = wordB B j ∧ wr.ownsRow w.heap.size 3 1 (.slice (some ⟨w.heap.size, 0, none⟩) L L) L (halfRow (wordB B i) l) ∧ Below w.heap.size w wr) (fun _ y _ => (intOf y).toNat)
      case atStart => exact ⟨i, L, rfl, rfl, hi, HN.out.symm, Nat.le_refl _, by rw [List.take_of_length_le (by rw [HN.out]; exact Nat.le_refl _)], hown, hB1⟩
      case round =>
        obtain ⟨j, l, rfl, rfl, hj', hl', hlL, htk, hO, hBr⟩ := hrel
        by_cases hl0 : l = 0
        · subst hl0
          have hO' : wr.ownsRow w.heap.size 3 1 (.slice (some ⟨w.heap.size, 0, none⟩) L L) (wordB B i).length ((wordB B i).map fun x => .int .i64 x) := by
            rw [HN.out]; simpa [halfRow] using hO
          have HO := hid hO'
          clear hO hO' hl' htk
          go_wp2
          go_ret
          exact ⟨_, rfl, HO.out, hBr⟩
        · have hj0 : 0 < j := by
            rcases Nat.eq_zero_or_pos j with e | e
            · subst e; rw [wordB_root HB.out] at hl'; simp at hl'; omega
            · exact e
          obtain ⟨l2, rfl⟩ : ∃ l2, l = l2 + 1 := ⟨l - 1, by omega⟩
          obtain ⟨h1, h2⟩ := HB.out.2.2 j hj0 hj'
          have hst := wordB_step HB.out hj0 hj'
          rw [hst] at hl' htk
          have hl2 : l2 = (wordB B (frB B j).toNat).length := by simp at hl'; omega
          have hiN : (wordB B i).length = L := HN.out
          have htk2 : (wordB B i).take l2 = wordB B (frB B j).toNat := by
            have := congrArg (List.take l2) htk
            rw [List.take_take, Nat.min_eq_left (by omega), List.take_append_of_le_length (by omega)] at this
            rw [this, hl2, List.take_length]
          have hle : (wordB B i).getD l2 0 = leB B j := by
            have := congrArg (fun l => l.getD l2 0) htk
            simp only [List.getD_eq_getElem?_getD, List.getElem?_take, if_pos (Nat.lt_succ_self l2)] at this
            rw [List.getD_eq_getElem?_getD, this, hl2]
            simp
          have hset := halfRow_set (wordB B i) l2 (leB B j) (by omega) hle
          obtain ⟨b', off', hA', k1, k1y, k2, k3⟩ := Hc.out j hj'
          cases hA'
          have hblk : b < w.heap.size := World.block_lt_of_cell? _ _ k1
          have m2 := (hBr.cell (p := ⟨b, off + j * 4 + 2, none⟩) hblk).trans k2
          have m3 := (hBr.cell (p := ⟨b, off + j * 4 + 3, none⟩) hblk).trans k3
          have hcA := hO.cellAt l2 (by omega)
          have hx2 : (halfRow (wordB B i) (l2 + 1))[l2]? = some (.int .i64 0) := by
            unfold halfRow
            rw [List.getElem?_append_left (by simp)]
            simp
          rw [hx2] at hcA
          have hfA := hO.frozenAt l2
          have hjs' : (j : Int) < B.length := by omega
          have hll : (l2 : Int) < L := by omega
          have HO := hid ((hO.stored l2 (.int .i64 (leB B j))).1)
          rw [hset] at HO
          have Hl2 := hid hl2
          have Htk := hid htk2
          have HBs := hid (hBr.setCell (p := ⟨w.heap.size, l2, none⟩) (Nat.le_refl _) (.int .i64 (leB B j)))
          clear hO hl' htk hst hl2 htk2 hle hset k1 k2 k3 hx2 hiN
          generalize frB B j = fr at *
          obtain ⟨fn, rfl⟩ := Int.eq_ofNat_of_zero_le h1
          rw [Int.toNat_natCast] at Hl2 Htk
          have hw1 : w.heap.size < wr.heap.size := World.block_lt_of_cell? _ _ hcA
          have hne : b ≠ w.heap.size := by omega
          have m2' : ∀ u, (wr.setCell ⟨w.heap.size, l2, none⟩ u).cell? ⟨b, off + j * 4 + 2, none⟩ = some (.int .i64 (fn : Int)) := fun u => (World.cell?_of_block (w := wr) (Below.heap_setCell _ _ _ _ (by simpa using hne))).trans m2
          have n2 := m2' (.int .i64 (leB B j))
          clear m2'
          go_wp2
          go_roundw
          case rel => exact ⟨fn, l2, rfl, rfl, by omega, Hl2.out, by omega, Htk.out, HO.out, HBs.out⟩
          case measure => simp [intOf]
    · obtain ⟨h1, h2⟩ := HB.out.2.2 jj (by omega) hjj
      have hst := wordB_step HB.out (by omega) hjj
      have hlen : L + 1 + (wordB B (frB B jj).toNat).length = N := by
        rw [hst, List.length_append] at hL
        simp at hL; omega
      have Hl := hid hlen
      clear hst hL hlen
      generalize frB B jj = fr at *
      obtain ⟨fn, rfl⟩ := Int.eq_ofNat_of_zero_le h1
      rw [Int.toNat_natCast] at Hl
      go_wp2
      go_round
      case rel => exact ⟨L + 1, fn, by go_num, rfl, by omega, Hl.out⟩
      case measure => simp [intOf]; omega
end Go.Proofs.YtbhhemidnmaodaaDoor
namespace Go.Proofs.YtbhhemidnmaodaaDoor
open Go.RowKit Go.Shelf Go.Maps Go.WideAt Go.WideMaps
/-- The cells of steps. -/
def flatBQ (c : Cd) (B : Steps) : List Value := B.flatMap fun t => [.int .i64 (c.x t.1), .int .i64 (c.y t.1), .int .i64 t.2.1, .int .i64 t.2.2]
theorem flatBQ_snoc (c : Cd) (B : Steps) (t : Int × Int × Int) : flatBQ c (B ++ [t]) = flatBQ c B ++ [.int .i64 (c.x t.1), .int .i64 (c.y t.1), .int .i64 t.2.1, .int .i64 t.2.2] := by simp [flatBQ]
theorem flatBQ_get (c : Cd) : ∀ (B : Steps) (i : Nat), i < B.length → (flatBQ c B)[i * 4]? = some (.int .i64 (c.x (plB B i))) ∧ (flatBQ c B)[i * 4 + 1]? = some (.int .i64 (c.y (plB B i))) ∧ (flatBQ c B)[i * 4 + 2]? = some (.int .i64 (frB B i)) ∧ (flatBQ c B)[i * 4 + 3]? = some (.int .i64 (leB B i))
  | [], i, h => by simp at h
  | t :: B, 0, _ => by refine ⟨?_, ?_, ?_, ?_⟩ <;> rfl
  | t :: B, i + 1, h => by
    have ih := flatBQ_get c B i (by simpa using h)
    have e1 : (i + 1) * 4 = i * 4 + 4 := by omega
    have key : ∀ k, (flatBQ c (t :: B))[k + 4]? = (flatBQ c B)[k]? := fun k => by simp [flatBQ]
    rw [e1]
    refine ⟨?_, ?_, ?_, ?_⟩
    · rw [key]; exact ih.1
    · rw [show i * 4 + 4 + 1 = i * 4 + 1 + 4 by omega, key]; exact ih.2.1
    · rw [show i * 4 + 4 + 2 = i * 4 + 2 + 4 by omega, key]; exact ih.2.2.1
    · rw [show i * 4 + 4 + 3 = i * 4 + 3 + 4 by omega, key]; exact ih.2.2.2
theorem steps_of_ownQ {c : Cd} {W : World} {base : Nat} {e : TypeId} {g cap : Nat} {B : Steps} (h : W.ownsRow base e 4 (.slice (some ⟨g, 0, none⟩) B.length cap) B.length (flatBQ c B)) (hl : B.length ≤ 100000) : StepsAtQ c W (.slice (some ⟨g, 0, none⟩) B.length cap) B := by
  refine ⟨_, cap, rfl, hl, fun i hi => ⟨g, 0, rfl, ?_⟩⟩
  obtain ⟨h1, h2, h3, h4⟩ := flatBQ_get c B i hi
  refine ⟨?_, ?_, ?_, ?_⟩
  · rw [Nat.zero_add, h.cellAt _ (by omega)]; exact h1
  · rw [Nat.zero_add, h.cellAt _ (by omega)]; exact h2
  · rw [Nat.zero_add, h.cellAt _ (by omega)]; exact h3
  · rw [Nat.zero_add, h.cellAt _ (by omega)]; exact h4
theorem arrP2 : ArrKey Tryd.prog 70 3 2 := ⟨Tryd.underlying70, by kernel_rfl, by kernel_rfl, by kernel_rfl⟩
theorem keyedP2 : Keyed Tryd.prog 70 := Keyed.of_law arrP2.law
def Cd.key (c : Cd) (p : Int) : Lit := .string (keyBytes [.int .i64 (c.x p), .int .i64 (c.y p)])
theorem Cd.keyOf {c : Cd} {n : Nat} (h : c.ok n) {p : Nat} (hp : p < n) : keyOf Tryd.prog 70 (.agg #[.int .i64 (c.x p), .int .i64 (c.y p)]) = some (c.key p) := by
  have := h.1 p hp
  exact keyOf_pair arrP2 Tryd.underlying3 ⟨Tryd.prog.types.size - 1, by kernel_rfl⟩ (WalkArith.wf_i64 (by omega)) (WalkArith.wf_i64 (by omega))
theorem Cd.inj {c : Cd} {n : Nat} (h : c.ok n) {p q : Nat} (hp : p < n) (hq : q < n) (e : c.key p = c.key q) : p = q := by
  have h1 := Cd.keyOf h hp
  rw [e] at h1
  have := keyedP2.inj h1 (Cd.keyOf h hq)
  simp only [Value.agg.injEq, Array.mk.injEq, List.cons.injEq, Value.int.injEq, and_true, true_and] at this
  exact h.2 p q hp hq this.1 this.2
theorem zeroBP (w : World) : (zeroValue 4).run Tryd.prog w = .ok (.bool false) w := by kernel_rfl
/-- A map from pairs to bools that reads as a set of places. -/
def SeenMapQ (c : Cd) (N : Nat) (w : World) (bm n : Nat) (S : Nat → Bool) : Prop :=
  ∃ V T q, ValMap w Tryd.prog 70 bm n (.bool false) V T q ∧ ∀ p : Nat, p < N → V (c.key p) = .bool (S p)
theorem SeenMapQ.made (c : Cd) (N : Nat) (w : World) : SeenMapQ c N (w.alloc (.map #[] 0)) w.heap.size 0 (fun _ => false) := ⟨_, _, _, ValMap.made w _ _ _, fun _ _ => rfl⟩
section
variable {c : Cd} {N : Nat} {w : World} {bm n : Nat} {S : Nat → Bool}
theorem SeenMapQ.look (h : SeenMapQ c N w bm n S) (hc : c.ok N) (p : Nat) (hp : p < N) : (Instr.lookup 109 (.map (some bm)) (.agg #[.int .i64 (c.x p), .int .i64 (c.y p)]) false).run Tryd.prog w = .ok (.bool (S p)) w := by
  obtain ⟨V, T, q, h1, h2⟩ := h
  rw [← h2 p hp]
  exact h1.look keyedP2 Tryd.underlying109 (zeroBP w) (Cd.keyOf hc hp)
theorem SeenMapQ.put (h : SeenMapQ c N w bm n S) (hc : c.ok N) (hn : n < 1000000) (p : Nat) (hp : p < N) : ∃ w', (Instr.mapUpdate 109 (.map (some bm)) (.agg #[.int .i64 (c.x p), .int .i64 (c.y p)]) (.bool true)).run Tryd.prog w = .ok () w' ∧ SeenMapQ c N w' bm (n + 1) (fun q => decide (q = p) || S q) ∧ w.grownBy w' (some bm) := by
  obtain ⟨V, T, q, h1, h2⟩ := h
  obtain ⟨w', r1, r2, r3⟩ := h1.put keyedP2 Tryd.underlying109 (by unfold maxLen; omega) (Cd.keyOf hc hp) (.bool true)
  refine ⟨w', r1, ⟨_, _, _, r2, fun q hq => ?_⟩, r3⟩
  by_cases e : q = p
  · subst e; simp
  · have hne : c.key q ≠ c.key p := fun e2 => e (Cd.inj hc hq hp e2)
    simp only [if_neg hne]
    rw [h2 q hq]; simp [e]
theorem SeenMapQ.kept {w' : World} (h : SeenMapQ c N w bm n S) (hk : w'.heap[bm]? = w.heap[bm]?) : SeenMapQ c N w' bm n S := by
  obtain ⟨V, T, q, h1, h2⟩ := h; exact ⟨V, T, q, h1.kept hk, h2⟩
theorem SeenMapQ.lt (h : SeenMapQ c N w bm n S) : bm < w.heap.size := by
  obtain ⟨V, T, q, h1, h2⟩ := h; exact h1.lt
theorem SeenMapQ.isMap (h : SeenMapQ c N w bm n S) : ∃ es k, w.heap[bm]? = some (.map es k) := by
  obtain ⟨V, T, q, ⟨D, ⟨es, clock, hb, _⟩, _⟩, _⟩ := h
  exact ⟨es, clock, hb⟩
end
end Go.Proofs.YtbhhemidnmaodaaDoor
namespace Go.Proofs.YtbhhemidnmaodaaDoor
open Go.RowKit Go.Shelf
theorem infoStepQ : (Tryd.prog.info? 111).map (fun i => (i.zero, i.size, i.bytes)) = some (some (.agg #[.int .i64 0, .int .i64 0, .int .i64 0, .int .i64 0]), 4, 32) := by kernel_rfl
/-- What holds of a word's function when its round begins. -/
def WordGQ (c : Cd) (F : Steps) (X : Blocks) (x : Nat × Value) (W : World) : Prop :=
  ∃ b6 b7 g cap B base, x.2 = .func (.func 71) #[] #[.pointer (some ⟨b6, 0, none⟩), .pointer (some ⟨b7, 0, none⟩)] ∧ X b6 ∧ X b7 ∧ X g ∧
    Boxed W b6 112 (.slice (some ⟨g, 0, none⟩) B.length cap) ∧ Boxed W b7 3 (.int .i64 x.1) ∧
    W.ownsRow base 111 4 (.slice (some ⟨g, 0, none⟩) B.length cap) B.length (flatBQ c B) ∧ TreeB B ∧ x.1 < B.length ∧ B.length ≤ 5000 ∧ wordB B x.1 = wordB F x.1
theorem WordGQ.keep {c : Cd} {F : Steps} {X : Blocks} {x : Nat × Value} {n₀ : Nat} {W W' : World} (h : WordGQ c F X x W) (k : Keep n₀ X W W') : WordGQ c F X x W' := by
  obtain ⟨b6, b7, g, cap, B, base, h1, h2, h3, h4, h5, h6, h7, h8⟩ := h
  exact ⟨b6, b7, g, cap, B, base, h1, h2, h3, h4, (k.block b6 h5.lt (.inr h2)).trans h5, (k.block b7 h6.lt (.inr h3)).trans h6, owns_block h7 (k.block g (own_lt h7).2 (.inr h4)), h8⟩
set_option maxRecDepth 100000 in
set_option maxHeartbeats 1000000 in
theorem word_anyQ (c : Cd) (F : Steps) (X : Blocks) (i : Nat) (b6 b7 : Nat) (W : World) (h : WordGQ c F X (i, .func (.func 71) #[] #[.pointer (some ⟨b6, 0, none⟩), .pointer (some ⟨b7, 0, none⟩)]) W) :
    Calls Tryd.prog 71 #[.pointer (some ⟨b6, 0, none⟩), .pointer (some ⟨b7, 0, none⟩)] W fun e w' => ∃ r, e = .returned r ∧ w'.ownsRow W.heap.size 3 1 r (wordB F i).length ((wordB F i).map fun x => .int .i64 x) ∧ Below W.heap.size W w' := by
  obtain ⟨b6', b7', g, cap, B, base, h1, h2, h3, h4, h5, h6, h7, h8, h9, h10, h11⟩ := h
  simp only [Value.func.injEq, true_and] at h1
  obtain ⟨rfl, rfl⟩ : b6 = b6' ∧ b7 = b7' := by simpa using h1
  have c5 := h5.cell
  have c6 := h6.cell
  have hs := spell_anyQ c _ B i W (steps_of_ownQ h7 (by omega)) h8 h9
  rw [h11] at hs
  have Hs := hid hs
  clear hs h1 h11 h7 h8
  go_enter Tryd.func71, Tryd.ntmps71
  go_wp2_with fail
  refine Hs.out.mono ?_
  rintro e w1 ⟨r, rfl, hr, hb⟩
  have Hr := hid hr
  clear hr
  go_wp2
  go_ret
  exact ⟨_, rfl, Hr.out, hb⟩
/-- The map and the steps of a search. -/
structure MemQ (c : Cd) (N : Nat) (base : Nat) (X : Blocks) (bm b6 g cap : Nat) (B : Steps) (W : World) : Prop where
  map : SeenMapQ c N W bm B.length (hasP B)
  row : W.ownsRow base 111 4 (.slice (some ⟨g, 0, none⟩) B.length cap) B.length (flatBQ c B)
  box : Boxed W b6 112 (.slice (some ⟨g, 0, none⟩) B.length cap)
  xm : X bm
  xg : X g
  x6 : X b6
  lm : base ≤ bm
  l6 : base ≤ b6
theorem MemQ.keep {c : Cd} {N : Nat} {base : Nat} {X : Blocks} {bm b6 g cap : Nat} {B : Steps} {W W' : World} {n₀ : Nat} (h : MemQ c N base X bm b6 g cap B W) (k : Keep n₀ X W W') : MemQ c N base X bm b6 g cap B W' :=
  ⟨h.map.kept (k.block bm h.map.lt (.inr h.xm)), owns_block h.row (k.block g (own_lt h.row).2 (.inr h.xg)), (k.block b6 h.box.lt (.inr h.x6)).trans h.box, h.xm, h.xg, h.x6, h.lm, h.l6⟩
theorem MemQ.below {c : Cd} {N : Nat} {base : Nat} {X : Blocks} {bm b6 g cap : Nat} {B : Steps} {W W' : World} (h : MemQ c N base X bm b6 g cap B W) (k : Below W.heap.size W W') : MemQ c N base X bm b6 g cap B W' := h.keep (Keep.of_below (n₀ := 0) k)
theorem MemQ.drew {c : Cd} {N : Nat} {base : Nat} {X : Blocks} {bm b6 g cap : Nat} {B : Steps} {W : World} (h : MemQ c N base X bm b6 g cap B W) : MemQ c N base X bm b6 g cap B W.drew := h.below (below_dr W 1)
theorem MemQ.apart {c : Cd} {N : Nat} {base : Nat} {X : Blocks} {bm b6 g cap : Nat} {B : Steps} {W : World} (h : MemQ c N base X bm b6 g cap B W) : bm ≠ b6 ∧ bm ≠ g ∧ b6 ≠ g := by
  obtain ⟨es, cl, hm⟩ := h.map.isMap
  refine ⟨fun e => ?_, fun e => ?_, fun e => ?_⟩
  · have h6 := h.box
    unfold Boxed at h6
    rw [← e, hm] at h6; cases h6
  · rcases h.row.2 with ⟨h', _⟩ | ⟨g', cap', cur, h', hB, hh, _⟩
    · cases h'
    · cases h'
      rw [← e, hm] at hh; cases hh
  · exact (h.box.not_row (by decide) h.row) (by rw [e]; rfl)
/-- A step more: the map first, then the row, then the variable. -/
theorem MemQ.add {c : Cd} {N : Nat} {base : Nat} {X : Blocks} {bm b6 g cap g' cap' : Nat} {B : Steps} {p : Nat} {i x : Int} {W w3 w5 : World} {o : Obj} (h : MemQ c N base X bm b6 g cap B W)
    (hm : SeenMapQ c N w3 bm (B.length + 1) (fun q => decide (q = p) || hasP B q)) (hg3 : W.grownBy w3 (some bm))
    (hown : w5.ownsRow base 111 4 (.slice (some ⟨g', 0, none⟩) (B.length + 1) cap') (B.length + 1) (flatBQ c B ++ [.int .i64 (c.x p), .int .i64 (c.y p), .int .i64 i, .int .i64 x])) (hg5 : (w3.alloc o).grownBy w5 (some g)) (hat : g = g' ∨ g' = (w3.alloc o).heap.size) :
    MemQ c N base (fun k => X k ∨ (W.heap.size ≤ k ∧ k < w5.heap.size)) bm b6 g' cap' (B ++ [((p : Int), i, x)]) (w5.setCell ⟨b6, 0, none⟩ (.slice (some ⟨g', 0, none⟩) (B.length + 1) cap')) ∧
      Turn (fun k => X k ∧ base ≤ k) W (w5.setCell ⟨b6, 0, none⟩ (.slice (some ⟨g', 0, none⟩) (B.length + 1) cap')) ∧ w5.heap.size = (w5.setCell ⟨b6, 0, none⟩ (.slice (some ⟨g', 0, none⟩) (B.length + 1) cap')).heap.size := by
  obtain ⟨a1, a2, a3⟩ := h.apart
  have s3 := hg3.size
  have s5 := hg5.size
  have hgl := own_lt h.row
  have hbl := h.box.lt
  have hml := h.map.lt
  have hs : (w3.alloc o).heap.size = w3.heap.size + 1 := by simp
  have hal : ∀ k, k < w3.heap.size → (w3.alloc o).heap[k]? = w3.heap[k]? := fun k hk => Below.heap_alloc w3 o k hk
  have hg'l := own_lt hown
  have hg'6 : g' ≠ b6 := by rcases hat with e | e <;> omega
  have box3 : Boxed w3 b6 112 (.slice (some ⟨g, 0, none⟩) B.length cap) := (hg3.block b6 hbl (by simpa using fun e => a1 e.symm)).trans h.box
  have box5 : Boxed w5 b6 112 (.slice (some ⟨g, 0, none⟩) B.length cap) := ((hg5.block b6 (by omega) (by simpa using a3)).trans (hal b6 (by omega))).trans box3
  have hoth : ∀ k, k ≠ b6 → (w5.setCell ⟨b6, 0, none⟩ (.slice (some ⟨g', 0, none⟩) (B.length + 1) cap')).heap[k]? = w5.heap[k]? := fun k hk => Below.heap_setCell _ _ _ _ (by simpa using hk)
  have hfun : (fun q => decide (q = p) || hasP B q) = hasP (B ++ [((p : Int), i, x)]) := by
    funext q
    rw [hasP_snoc, Bool.or_comm]
    congr 1
    by_cases e : q = p
    · subst e; simp
    · have : ((p : Int) == (q : Int)) = false := by simp; omega
      rw [this]; simp [e]
  rw [hfun] at hm
  refine ⟨⟨?_, ?_, ?_, .inl h.xm, ?_, .inl h.x6, h.lm, h.l6⟩, ⟨?_, ?_, ?_, ?_, fun k hk hX => ?_⟩, by simp [World.setCell]⟩
  · rw [List.length_append]
    exact hm.kept ((hoth bm a1).trans ((hg5.block bm (by omega) (by simpa using a2)).trans (hal bm (by omega))))
  · rw [List.length_append, flatBQ_snoc]
    exact owns_block hown (hoth g' hg'6)
  · rw [List.length_append]
    exact box5.set _
  · rcases hat with e | e
    · rw [← e]; exact .inl h.xg
    · exact .inr ⟨by omega, hg'l.2⟩
  · exact hg5.os.trans hg3.os
  · exact hg5.tape.trans hg3.tape
  · exact hg5.output.trans hg3.output
  · simp [World.setCell]; omega
  · have k1 : k ≠ b6 := fun e => hX (e ▸ ⟨h.x6, h.l6⟩)
    have k2 : k ≠ bm := fun e => hX (e ▸ ⟨h.xm, h.lm⟩)
    have k3 : k ≠ g := fun e => hX (e ▸ ⟨h.xg, hgl.1⟩)
    rw [hoth k k1, hg5.block k (by omega) (by simpa using k3), hal k (by omega), hg3.block k hk (by simpa using k2)]
/-- Where a search stands. -/
structure SWQ (c : Cd) (N : Nat) (J : Blocks → List (Nat × Value) → World → Prop) (n₀ : Nat) (X0 : Blocks) (W : World) (bm b6 b7 i : Nat) (B : Steps) (pre : List (Nat × Value)) (X : Blocks) (g cap : Nat) (wr : World) : Prop where
  mem : MemQ c N W.heap.size X bm b6 g cap B wr
  ibox : Boxed wr b7 3 (.int .i64 i)
  x7 : X b7
  l7 : W.heap.size ≤ b7
  j : J X pre wr
  xlt : ∀ k, X k → k < wr.heap.size
  x0 : ∀ k, X0 k → X k
  kept : Keep n₀ X0 W wr
section
variable {c : Cd} {N : Nat} {J : Blocks → List (Nat × Value) → World → Prop} {n₀ : Nat} {X0 : Blocks} {W : World} {bm b6 b7 i : Nat} {B : Steps} {pre : List (Nat × Value)} {X : Blocks} {g cap : Nat} {wr : World}
theorem SWQ.below (h : SWQ c N J n₀ X0 W bm b6 b7 i B pre X g cap wr) (hJ : Minds J) {w' : World} (k : Below wr.heap.size wr w') : SWQ c N J n₀ X0 W bm b6 b7 i B pre X g cap w' :=
  ⟨h.mem.below k, (k.block b7 h.ibox.lt).trans h.ibox, h.x7, h.l7, hJ X X _ _ _ h.j (Turn.of_below k) (fun _ h => .inl h), fun a ha => Nat.lt_of_lt_of_le (h.xlt a ha) k.size, h.x0, h.kept.trans (Keep.of_below k)⟩
theorem SWQ.drew (h : SWQ c N J n₀ X0 W bm b6 b7 i B pre X g cap wr) (hJ : Minds J) : SWQ c N J n₀ X0 W bm b6 b7 i B pre X g cap wr.drew := h.below hJ (below_dr wr 1)
theorem SWQ.round (h : SWQ c N J n₀ X0 W bm b6 b7 i B pre X g cap wr) {pre' : List (Nat × Value)} {w' : World} (hj : J X pre' w') (k : Keep n₀ X wr w') : SWQ c N J n₀ X0 W bm b6 b7 i B pre' X g cap w' :=
  ⟨h.mem.keep k, (k.block b7 h.ibox.lt (.inr h.x7)).trans h.ibox, h.x7, h.l7, hj, fun a ha => Nat.lt_of_lt_of_le (h.xlt a ha) k.size, h.x0, h.kept.trans (k.mono h.x0)⟩
theorem SWQ.add (h : SWQ c N J n₀ X0 W bm b6 b7 i B pre X g cap wr) (hJ : Minds J) (hn : n₀ ≤ W.heap.size) (h0 : ∀ k, X0 k → k < W.heap.size) {g' cap' p : Nat} {x : Int} {w3 w5 : World} {o : Obj}
    (hm : SeenMapQ c N w3 bm (B.length + 1) (fun q => decide (q = p) || hasP B q)) (hg3 : wr.grownBy w3 (some bm))
    (hown : w5.ownsRow W.heap.size 111 4 (.slice (some ⟨g', 0, none⟩) (B.length + 1) cap') (B.length + 1) (flatBQ c B ++ [.int .i64 (c.x p), .int .i64 (c.y p), .int .i64 i, .int .i64 x])) (hg5 : (w3.alloc o).grownBy w5 (some g)) (hat : g = g' ∨ g' = (w3.alloc o).heap.size) :
    ∃ X', SWQ c N J n₀ X0 W bm b6 b7 i (B ++ [((p : Int), (i : Int), x)]) pre X' g' cap' (w5.setCell ⟨b6, 0, none⟩ (.slice (some ⟨g', 0, none⟩) (B.length + 1) cap')) := by
  obtain ⟨m1, m2, m3⟩ := h.mem.add (i := (i : Int)) (x := x) hm hg3 hown hg5 hat
  have s3 := hg3.size
  have s5 := hg5.size
  have hs : (w3.alloc o).heap.size = w3.heap.size + 1 := by simp
  have h7l := h.ibox.lt
  obtain ⟨es, cl, hmap⟩ := h.mem.map.isMap
  have k1 : b7 ≠ b6 := fun e => by
    have h6 := h.mem.box
    have h7 := h.ibox
    unfold Boxed at h6 h7
    rw [e, h6] at h7; cases h7
  have k2 : b7 ≠ bm := fun e => by
    have h7 := h.ibox
    unfold Boxed at h7
    rw [e, hmap] at h7; cases h7
  have k3 : some b7 ≠ (Value.slice (some ⟨g, 0, none⟩) B.length cap).ownBlock := h.ibox.not_row (by decide) h.mem.row
  refine ⟨_, ⟨m1, ?_, .inl h.x7, h.l7, hJ _ _ _ _ _ h.j (m2.mono fun k hk => hk.1) (fun k hk => hk.imp id (fun h => h.1)), fun k hk => ?_, fun k hk => .inl (h.x0 k hk), h.kept.trans (Keep.of_turn m2 hn h0)⟩⟩
  · have e1 : (w5.setCell ⟨b6, 0, none⟩ (.slice (some ⟨g', 0, none⟩) (B.length + 1) cap')).heap[b7]? = w5.heap[b7]? := Below.heap_setCell _ _ _ _ (by simpa using k1)
    exact e1.trans ((hg5.block b7 (by omega) k3).trans ((Below.heap_alloc w3 o b7 (by omega)).trans ((hg3.block b7 h7l (by simpa using k2)).trans h.ibox)))
  · rcases hk with hk | hk
    · have := h.xlt k hk; omega
    · omega
/-- The next round has a variable of its own. -/
theorem SWQ.next (h : SWQ c N J n₀ X0 W bm b6 b7 i B pre X g cap wr) (hJ : Minds J) {i' : Nat} : ∃ X', SWQ c N J n₀ X0 W bm b6 wr.heap.size i' B pre X' g cap (wr.alloc (.cells #[.int .i64 i'] 3)) := by
  have hb : Below wr.heap.size wr (wr.alloc (.cells #[.int .i64 i'] 3)) := bal (Below.refl _ wr) _
  obtain ⟨a1, a2, a3, a4, a5, a6, a7, a8⟩ := h.mem.below hb
  have hW := h.kept.size
  exact ⟨fun k => X k ∨ k = wr.heap.size, ⟨⟨a1, a2, a3, .inl a4, .inl a5, .inl a6, a7, a8⟩, Boxed.new wr _ _, .inr rfl, hW, hJ _ _ _ _ _ h.j (Turn.of_below hb) (fun k hk => hk.imp id (fun e => Nat.le_of_eq e.symm)),
    fun k hk => by
      simp only [World.size_alloc]
      rcases hk with hk | hk
      · have := h.xlt k hk; omega
      · omega, fun k hk => .inl (h.x0 k hk), h.kept.trans (Keep.of_below hb)⟩⟩
theorem SWQ.start (hJ : Minds J) (h0 : J X0 [] W) (hX0 : ∀ k, X0 k → k < W.heap.size) {w1 : World} {s : Nat} (hB1 : Below W.heap.size W w1) (hgs : W.heap.size < w1.heap.size) (hmap : SeenMapQ c N w1 W.heap.size 1 (fun q => decide (q = s) || false)) :
    SWQ c N J n₀ X0 W W.heap.size (w1.heap.size + 1) (w1.heap.size + 1 + 1) 0 [((s : Int), -1, 0)] [] (fun k => X0 k ∨ (W.heap.size ≤ k ∧ k < w1.heap.size + 3)) w1.heap.size 1
      (((w1.alloc (.cells #[.int .i64 (c.x s), .int .i64 (c.y s), .int .i64 (-1), .int .i64 0] 111)).alloc (.cells #[.slice (some ⟨w1.heap.size, 0, none⟩) 1 1] 112)).alloc (.cells #[.int .i64 0] 3)) := by
  have b1 : Below w1.heap.size w1 (((w1.alloc (.cells #[.int .i64 (c.x s), .int .i64 (c.y s), .int .i64 (-1), .int .i64 0] 111)).alloc (.cells #[.slice (some ⟨w1.heap.size, 0, none⟩) 1 1] 112)).alloc (.cells #[.int .i64 0] 3)) := bal (bal (bal (Below.refl _ w1) _) _) _
  have hBT := btr hB1 b1
  have hfun : (fun q => decide (q = s) || false) = hasP [((s : Int), -1, 0)] := by
    funext q
    by_cases e : q = s
    · subst e; simp [hasP]
    · have : ((s : Int) == (q : Int)) = false := by simp; omega
      simp [hasP, e, this]
  rw [hfun] at hmap
  have hrow := World.ownsRow_lit (base := W.heap.size) (e := 111) (size := 4) w1 #[.int .i64 (c.x s), .int .i64 (c.y s), .int .i64 (-1), .int .i64 0] 1 (by omega) (by decide) rfl
  have hrow3 := owns_block (w' := (((w1.alloc (.cells #[.int .i64 (c.x s), .int .i64 (c.y s), .int .i64 (-1), .int .i64 0] 111)).alloc (.cells #[.slice (some ⟨w1.heap.size, 0, none⟩) 1 1] 112)).alloc (.cells #[.int .i64 0] 3))) hrow ((bal (bal (Below.refl _ _) _) _).block _ (by simp))
  have q2 := (Boxed.new (w1.alloc (.cells #[.int .i64 (c.x s), .int .i64 (c.y s), .int .i64 (-1), .int .i64 0] 111)) 112 (.slice (some ⟨w1.heap.size, 0, none⟩) 1 1)).alloc (.cells #[.int .i64 0] 3)
  have q3 := Boxed.new ((w1.alloc (.cells #[.int .i64 (c.x s), .int .i64 (c.y s), .int .i64 (-1), .int .i64 0] 111)).alloc (.cells #[.slice (some ⟨w1.heap.size, 0, none⟩) 1 1] 112)) 3 (.int .i64 0)
  simp only [World.size_alloc] at q2 q3
  refine ⟨⟨hmap.kept (b1.block _ hgs), hrow3, q2, .inr ⟨Nat.le_refl _, by omega⟩, .inr ⟨by omega, by omega⟩, .inr ⟨by omega, by omega⟩, Nat.le_refl _, by omega⟩, q3, .inr ⟨by omega, by omega⟩, by omega, hJ _ _ _ _ _ h0 (Turn.of_below hBT) (fun k hk => hk.imp id (fun h => h.1)), fun k hk => ?_, fun k hk => .inl hk, Keep.of_below hBT⟩
  simp only [World.size_alloc]
  rcases hk with hk | hk
  · have := hX0 k hk; omega
  · omega
end
/-- The box of a place. -/
def PBox (c : Cd) (W : World) (b : Nat) (p : Int) : Prop := W.heap[b]? = some (.cells #[.int .i64 (c.x p), .int .i64 (c.y p)] 70 (0, 0))
theorem PBox.cells {c : Cd} {W : World} {b : Nat} {p : Int} (h : PBox c W b p) : W.cell? ⟨b, 0, none⟩ = some (.int .i64 (c.x p)) ∧ W.cell? ⟨b, 1, none⟩ = some (.int .i64 (c.y p)) := by
  unfold PBox at h
  simp [World.cell?, h]
theorem PBox.lt {c : Cd} {W : World} {b : Nat} {p : Int} (h : PBox c W b p) : b < W.heap.size := lt_of_block h
section
variable {c : Cd} {N : Nat} {J : Blocks → List (Nat × Value) → World → Prop} {n₀ : Nat} {X0 : Blocks} {W : World} {bm b6 b7 i : Nat} {B : Steps} {pre : List (Nat × Value)} {X : Blocks} {g cap : Nat} {wr : World}
/-- A round has a place of its own. -/
theorem SWQ.box (h : SWQ c N J n₀ X0 W bm b6 b7 i B pre X g cap wr) (hJ : Minds J) (p : Int) : ∃ X', X' wr.heap.size ∧ SWQ c N J n₀ X0 W bm b6 b7 i B pre X' g cap (wr.alloc (.cells #[.int .i64 (c.x p), .int .i64 (c.y p)] 70)) := by
  have hb : Below wr.heap.size wr (wr.alloc (.cells #[.int .i64 (c.x p), .int .i64 (c.y p)] 70)) := bal (Below.refl _ wr) _
  obtain ⟨a1, a2, a3, a4, a5, a6, a7, a8⟩ := h.mem.below hb
  exact ⟨fun k => X k ∨ k = wr.heap.size, .inr rfl, ⟨⟨a1, a2, a3, .inl a4, .inl a5, .inl a6, a7, a8⟩, (hb.block b7 h.ibox.lt).trans h.ibox, .inl h.x7, h.l7, hJ _ _ _ _ _ h.j (Turn.of_below hb) (fun k hk => hk.imp id (fun e => Nat.le_of_eq e.symm)),
    fun k hk => by
      simp only [World.size_alloc]
      rcases hk with hk | hk
      · have := h.xlt k hk; omega
      · omega, fun k hk => .inl (h.x0 k hk), h.kept.trans (Keep.of_below hb)⟩⟩
/-- A step more leaves the place where it lies. -/
theorem SWQ.off (h : SWQ c N J n₀ X0 W bm b6 b7 i B pre X g cap wr) {b : Nat} {p : Int} (hb : PBox c wr b p) : b ≠ bm ∧ b ≠ b6 ∧ some b ≠ (Value.slice (some ⟨g, 0, none⟩) B.length cap).ownBlock := by
  obtain ⟨es, cl, hmap⟩ := h.mem.map.isMap
  unfold PBox at hb
  refine ⟨fun e => ?_, fun e => ?_, fun e => ?_⟩
  · rw [e, hmap] at hb; cases hb
  · have h6 := h.mem.box
    unfold Boxed at h6
    rw [e, h6] at hb; cases hb
  · have hr := h.mem.row
    rcases hr.2 with ⟨h', _⟩ | ⟨g', cap', cur, h', hB, hh, _⟩
    · cases h'
    · cases h'
      cases e
      rw [hh] at hb
      simp only [Option.some.injEq, Obj.cells.injEq] at hb
      exact absurd hb.2.1 (by decide)
end
end Go.Proofs.YtbhhemidnmaodaaDoor
namespace Go.Proofs.YtbhhemidnmaodaaDoor
open Go.RowKit Go.Shelf
/-- What minds neither new blocks, nor a turn of a block of book-keeping. -/
def StableE (B : Nat) {β : Type} (I : Blocks → β → World → Prop) : Prop :=
  ∀ X s W W', I X s W → W'.os = W.os → W'.tape = W.tape → W'.output = W.output → W.heap.size ≤ W'.heap.size →
    (∀ k o, W.heap[k]? = some o → (k < B ∨ o.isCells = true) → W'.heap[k]? = some o) → I X s W'
def MindsE {β : Type} (J : Blocks → β → World → Prop) : Prop :=
  ∀ X s W W', J X s W → Turn (fun _ => False) W W' → J X s W'
theorem StableE.put {B : Nat} {β : Type} {I : Blocks → β → World → Prop} (h : StableE B I) {X : Blocks} {s : β} {W : World} {l : Nat} {o : Obj} (o' : Obj) (hs : I X s W) (hB : B ≤ l) (hl : W.heap[l]? = some o) (ho : o.isCells = false) : I X s (W.putObj l o') := by
  obtain ⟨a, b, c, d⟩ := putObj_book W l o'
  refine h X s W _ hs a b c d (fun k ok hk hc => ?_)
  by_cases e : k = l
  · subst e
    rw [hl] at hk; cases hk
    rcases hc with h1 | h1
    · omega
    · rw [ho] at h1; cases h1
  · exact (World.putObj_heap_other e).trans hk
end Go.Proofs.YtbhhemidnmaodaaDoor
namespace Go.Proofs.YtbhhemidnmaodaaDoor
open Go.RowKit Go.Shelf
/-- WHAT AN ITERATOR PROMISES: gf with what comes before and behind yield among its arguments; encs: yield's arguments; n₀: what it reads lies below; G: what holds of an element while its round begins. -/
def SeqF {α : Type} (ok : List α → Prop) (gf : Nat) (fb lb : Array Value) (encs : α → Array Value) (n₀ : Nat) (G : Blocks → α → World → Prop) (S Sp : List α → Prop) (w0 : World) (X0 : Blocks) : Prop :=
  ∀ (l : Nat) (J Jx : Blocks → List α → World → Prop) (W : World), Below w0.heap.size w0 W → Minds J → MindsE Jx → (∀ X pre W, J X pre W → ok pre) →
    (∀ X pre x W1, (∀ k, X k → k < W1.heap.size) → J X pre W1 → G X x W1 → Sp (pre ++ [x]) → YieldAt Fence.wide 0 Tryd.prog l (encs x) W1 fun e W' =>
      ((e = .returned (.bool true) ∧ J X (pre ++ [x]) W') ∨ (e = .returned (.bool false) ∧ Jx X (pre ++ [x]) W')) ∧ Keep n₀ X W1 W') →
    J X0 [] W →
    Calls Tryd.prog gf ((fb ++ #[.func (.yield l) #[] #[]]) ++ lb) W fun e W' => (∃ v, e = .returned v) ∧ ((∃ X xs, S xs ∧ J X xs W') ∨ (∃ X pre, Sp pre ∧ Jx X pre W'))
/-- THE STATEMENT 'for .. := range f { .. }' over an iterator that keeps its promise. -/
theorem range_lawF {α : Type} {g : Operand} {ps : Array Tmp} {assign body : Code} {Q : Exit → Act → World → Prop} {a : Act} {w : World} {gf : Nat} {fb lb : Array Value}
    (hg : a.eval g = .func (.func gf) fb lb) (eg : ∀ args w, (callFunc gf args).run Tryd.prog w = .ok (.enter gf args) w)
    {encs : α → Array Value} {n₀ : Nat} {G : Blocks → α → World → Prop} {S Sp : List α → Prop} {w0 : World} {X0 : Blocks} {ok : List α → Prop} (hseq : SeqF ok gf fb lb encs n₀ G S Sp w0 X0) (hX0 : ∀ k, X0 k → k < w.heap.size)
    (hG : ∀ X x W W', G X x W → Keep n₀ X W W' → G X x W') (hn : n₀ ≤ w.heap.size) (hb0 : Below w0.heap.size w0 w) (hps : ∀ x, (encs x).size = ps.size)
    (I : Blocks → List α → World → Prop) (Ix : Code → Blocks → List α → World → Prop) (hok : ∀ X pre W, I X pre W → ok pre) (hI : Stable w.heap.size I) (hIx : ∀ c, StableE w.heap.size (Ix c)) (h0 : I X0 [] w)
    (Ax : Blocks → α → Act → World → Prop) (hAx : ∀ X x a' W l o o', Ax X x a' W → w.heap.size ≤ l → W.heap[l]? = some o → o.isCells = false → Ax X x a' (W.putObj l o'))
    (hassign : ∀ (l : Nat) (X : Blocks) (pre : List α) (x : α) (W : World) (K : Act → World → Prop), (∀ k, X k → k < W.heap.size) → I X pre W → G X x W → (∀ a' W', KeepsFrom w.heap.size W W' → Keep n₀ X W W' → I X pre W' → Ax X x a' W' → K a' W') →
      assign.wpIn (Fence.wide.inRound l) 0 Tryd.prog (Exit.then K (fun _ _ _ => False)) { tmps := (ps.zip (encs x)).foldl (fun t (p, v) => t.setIfInBounds p v) a.tmps, defers := [] } W)
    (hbody : ∀ (l : Nat) (X : Blocks) (pre : List α) (x : α) (a' : Act) (W : World), w.heap.size ≤ l → (∃ r, W.heap[l]? = some (.loop r)) → ¬ X l → (∀ k, X k → k < W.heap.size) → I X pre W → G X x W → Ax X x a' W → Sp (pre ++ [x]) →
      body.wpIn (Fence.wide.inRound l) 0 Tryd.prog (postX w.heap.size n₀ I Ix X (pre ++ [x]) W) a' W)
    (hdone : ∀ (D : Nat) (X : Blocks) (xs : List α) (W : World), w.heap.size ≤ D → S xs → I X xs W → W.heap[D]? = some (.deferred (some [])) → Q .normal { a with defers := { target := .collected D, args := #[] } :: a.defers } W)
    (hstop : ∀ (D : Nat) (X : Blocks) (c : Code) (pre : List α) (W : World), w.heap.size ≤ D → Sp pre → Ix c X pre W → W.heap[D]? = some (.deferred (some [])) → c.wpIn Fence.wide 0 Tryd.prog Q { a with defers := { target := .collected D, args := #[] } :: a.defers } W) :
    (Code.rangeFunc g ps assign body).wpIn Fence.wide 0 Tryd.prog Q a w := by
  refine wpIn_rangeFunc ?_
  intro fn hfn
  obtain ⟨rec, hrec⟩ : ∃ rec : LoopState → Option Code → Loop, rec = fun st pe => { state := st, pending := pe, fn, tmps := a.tmps, params := ps, assign, body, defers := w.heap.size } := ⟨_, rfl⟩
  obtain ⟨W1, hW1⟩ : ∃ W1, (w.alloc (.deferred (some []))).alloc (.loop (rec .ready none)) = W1 := ⟨_, rfl⟩
  have hL1 : W1.heap[w.heap.size + 1]? = some (.loop (rec .ready none)) := by
    rw [← hW1]; have := World.alloc_heap_new (w.alloc (.deferred (some []))) (.loop (rec .ready none)); rwa [World.size_alloc] at this
  have hK1 : W1.heap[w.heap.size]? = some (.deferred (some [])) := by
    rw [← hW1]; exact (Below.heap_alloc _ _ _ (by simp)).trans (World.alloc_heap_new w _)
  have hI1 : I X0 [] W1 := by rw [← hW1]; exact hI.new _ (hI.new _ h0)
  have hb1 : Below w0.heap.size w0 W1 := by
    rw [← hW1]; exact hb0.trans ((((Below.refl _ w).alloc (Nat.le_refl _) _).alloc (by simp) _).mono hb0.size)
  refine ⟨w.heap.size + 1, [{ target := .collected w.heap.size, args := #[] }], W1, { target := .fn (.func gf) lb, args := fb ++ #[.func (.yield (w.heap.size + 1)) #[] #[]] }, W1, gf,
    (fb ++ #[.func (.yield (w.heap.size + 1)) #[] #[]]) ++ lb, W1, ?_, ?_, fun f' _ => trivial, ?_, fun h => by simp [Fence.wide] at h, ?_⟩
  · rw [← hW1, hrec]; exact run_enterLoop_outer _ _ _ _ _
  · simp only [resolve, hg]
    simp [go_sem, Deferred.ofValue]
  · simp [invoke, go_sem, eg]
  · refine callsIn_wide.2 ?_
    refine (hseq (w.heap.size + 1)
      (fun X pre W => I X pre W ∧ ¬ X (w.heap.size + 1) ∧ ¬ X w.heap.size ∧ W.heap[w.heap.size + 1]? = some (.loop (rec .ready none)) ∧ W.heap[w.heap.size]? = some (.deferred (some [])))
      (fun X pre W => ∃ c, Ix c X pre W ∧ ¬ X (w.heap.size + 1) ∧ ¬ X w.heap.size ∧ W.heap[w.heap.size + 1]? = some (.loop (rec .done (some c))) ∧ W.heap[w.heap.size]? = some (.deferred (some [])))
      W1 hb1 ?_ ?_ (fun X pre W h => hok X pre W h.1) ?_ ⟨hI1, fun h => by have := hX0 _ h; omega, fun h => by have := hX0 _ h; omega, hL1, hK1⟩).mono ?_
    · rintro X X' s A B ⟨h1, h2, h3, h4, h5⟩ ht hX
      have l4 := (Array.getElem?_eq_some_iff.1 h4).1
      refine ⟨hI X X' s A B h1 ht.os ht.tape ht.output ht.size (fun k o hk hx _ => (ht.block k (Array.getElem?_eq_some_iff.1 hk).1 hx).trans hk) hX, fun h => ?_, fun h => ?_, (ht.block _ l4 h2).trans h4, (ht.block _ (by omega) h3).trans h5⟩
      · rcases hX _ h with h | h
        · exact h2 h
        · omega
      · rcases hX _ h with h | h
        · exact h3 h
        · omega
    · rintro X s A B ⟨c, h1, h2, h3, h4, h5⟩ ht
      have l4 := (Array.getElem?_eq_some_iff.1 h4).1
      exact ⟨c, hIx c X s A B h1 ht.os ht.tape ht.output ht.size (fun k o hk _ => (ht.block k (Array.getElem?_eq_some_iff.1 hk).1 (fun h => h)).trans hk), h2, h3, (ht.block _ l4 (fun h => h)).trans h4, (ht.block _ (by omega) (fun h => h)).trans h5⟩
    · -- one round
      rintro X pre x W hXs ⟨hi, hXl, hXd, hl, hk⟩ hgx hsp
      have hy := run_yield (P := Tryd.prog) (args := encs x) hl (by rw [hrec]; exact hps x)
      rw [hrec] at hy
      refine ⟨fn, _, assign, body, hy, roundIn_of_wpIn trivial (hassign _ X pre x W _ hXs hi hgx ?_)⟩
      clear hy
      intro a' Wa hkfa hkpa hia hax
      have hl' := hkfa.same _ _ (by omega) hl rfl
      have hk' := hkfa.same _ _ (Nat.le_refl _) hk rfl
      have hlt := (Array.getElem?_eq_some_iff.1 hl').1
      refine ⟨_, run_beginRound hl' (by rw [hrec]), ?_⟩
      have hl2 : (Wa.putObj (w.heap.size + 1) (.loop { rec .ready none with state := .busy })).heap[w.heap.size + 1]? = some (.loop { rec .ready none with state := .busy }) := World.putObj_heap_same hlt
      have hk2 : (Wa.putObj (w.heap.size + 1) (.loop { rec .ready none with state := .busy })).heap[w.heap.size]? = some (.deferred (some [])) := (World.putObj_heap_other (by omega)).trans hk'
      have hkp2 : Keep n₀ X Wa (Wa.putObj (w.heap.size + 1) (.loop { rec .ready none with state := .busy })) := keep_put _ (by omega) hXl
      refine wpIn_mono (hbody _ X pre x a' _ (by omega) ⟨_, hl2⟩ hXl (fun k hk => by have h1 := hXs k hk; have h2 := hkpa.size; simp; omega) (hI.put _ hia (by omega) hl' rfl) (hG _ _ _ _ hgx (hkpa.trans hkp2)) (hAx X x a' _ _ _ _ hax (by omega) hl' rfl) hsp) ?_
      have fin : ∀ (jump : Option Code) (W3 : World), KeepsFrom w.heap.size (Wa.putObj (w.heap.size + 1) (.loop { rec .ready none with state := .busy })) W3 →
          (Instr.endRound (w.heap.size + 1) jump).run Tryd.prog W3 = .ok (.bool jump.isNone) (W3.putObj (w.heap.size + 1) (.loop (rec (if jump.isNone then .ready else .done) jump))) ∧
          W3.heap[w.heap.size + 1]? = some (.loop { rec .ready none with state := .busy }) ∧
          (W3.putObj (w.heap.size + 1) (.loop (rec (if jump.isNone then .ready else .done) jump))).heap[w.heap.size + 1]? = some (.loop (rec (if jump.isNone then .ready else .done) jump)) ∧
          (W3.putObj (w.heap.size + 1) (.loop (rec (if jump.isNone then .ready else .done) jump))).heap[w.heap.size]? = some (.deferred (some [])) := fun jump W3 hk3 => by
        have hl3 := hk3.same _ _ (by omega) hl2 rfl
        have := run_endRound (P := Tryd.prog) jump hl3
        rw [hrec] at this ⊢
        exact ⟨this, by rw [hrec] at hl3; exact hl3, World.putObj_heap_same (Array.getElem?_eq_some_iff.1 hl3).1, (World.putObj_heap_other (by omega)).trans (hk3.same _ _ (Nat.le_refl _) hk2 rfl)⟩
      have kp : ∀ (W3 : World) (o : Obj), Keep n₀ X (Wa.putObj (w.heap.size + 1) (.loop { rec .ready none with state := .busy })) W3 → Keep n₀ X W (W3.putObj (w.heap.size + 1) o) := fun W3 o h3 =>
        ((hkpa.trans hkp2).trans h3).trans (keep_put _ (by omega) hXl)
      rintro e a3 W3 hp
      cases e with
      | normal =>
        obtain ⟨hk3, hkp3, hi3⟩ := hp
        obtain ⟨hr, hl3, hl4, hk4⟩ := fin none W3 hk3
        exact ⟨_, _, hr, .inl ⟨rfl, hI.put _ hi3 (by omega) hl3 rfl, hXl, hXd, hl4, hk4⟩, kp _ _ hkp3⟩
      | ret =>
        obtain ⟨hk3, hkp3, hi3⟩ := hp
        obtain ⟨hr, hl3, hl4, hk4⟩ := fin (some .ret) W3 hk3
        exact ⟨_, _, hr, .inr ⟨rfl, .ret, (hIx _).put _ hi3 (by omega) hl3 rfl, hXl, hXd, hl4, hk4⟩, kp _ _ hkp3⟩
      | exit id =>
        obtain ⟨hk3, hkp3, hi3⟩ := hp
        obtain ⟨hr, hl3, hl4, hk4⟩ := fin (some (.exit id)) W3 hk3
        exact ⟨_, _, hr, .inr ⟨rfl, .exit id, (hIx _).put _ hi3 (by omega) hl3 rfl, hXl, hXd, hl4, hk4⟩, kp _ _ hkp3⟩
      | goto t =>
        obtain ⟨hk3, hkp3, hi3⟩ := hp
        obtain ⟨hr, hl3, hl4, hk4⟩ := fin (some (.goto t)) W3 hk3
        exact ⟨_, _, hr, .inr ⟨rfl, .goto t, (hIx _).put _ hi3 (by omega) hl3 rfl, hXl, hXd, hl4, hk4⟩, kp _ _ hkp3⟩
      | panic ch => exact hp.elim
      | outgrown => exact hp.elim
    · -- behind the iterator
      rintro e W2 ⟨⟨v, rfl⟩, (⟨X, xs, hS, hi, _, _, hl, hk⟩ | ⟨X, pre, hSp, c, hi, _, _, hl, hk⟩)⟩
      · exact ⟨none, _, by have := run_endLoop (P := Tryd.prog) hl (by rw [hrec]; simp); rw [hrec] at this; exact this, hdone _ X xs _ (Nat.le_refl _) hS (hI.put _ hi (by omega) hl rfl) ((World.putObj_heap_other (by omega)).trans hk)⟩
      · exact ⟨some c, _, by have := run_endLoop (P := Tryd.prog) hl (by rw [hrec]; simp); rw [hrec] at this; exact this, hstop _ X c pre _ (Nat.le_refl _) hSp ((hIx c).put _ hi (by omega) hl rfl) ((World.putObj_heap_other (by omega)).trans hk)⟩
end Go.Proofs.YtbhhemidnmaodaaDoor
namespace Go.Proofs.YtbhhemidnmaodaaDoor
open Go.RowKit Go.Shelf
attribute [local go_sem] Oper.semAt_some
/-- What yield is told of a step. -/
def encQ (c : Cd) (F : Steps) (x : Nat × Value) : Array Value := #[.agg #[.int .i64 (c.x (plB F x.1)), .int .i64 (c.y (plB F x.1))], x.2]
theorem cells_four (w : World) (t : TypeId) (a b c d : Value) : ∀ (j : Nat) (u : Value), [a, b, c, d][j]? = some u → (w.alloc (.cells #[a, b, c, d] t)).cell? ((⟨w.heap.size, 0, none⟩ : Addr).add j) = some u := by
  intro j u hu
  have hj : j < 4 := by
    have := (List.getElem?_eq_some_iff.1 hu).1
    simpa using this
  have h3 : j = 0 ∨ j = 1 ∨ j = 2 ∨ j = 3 := by omega
  rcases h3 with rfl | rfl | rfl | rfl <;> simp at hu <;> subst hu <;> simp [Addr.add]
set_option maxRecDepth 100000 in
set_option maxHeartbeats 4000000 in
theorem Words_seqQ (c : Cd) (good : Nat → Prop) (ld : Nat → Nat → Nat) (n K s ba bb bd b1 b2 b3 n₀ : Nat) (R : World → Prop) (W0 : World) (X0 : Blocks) (hcok : c.ok n) (hn60 : n ≤ 5000) (hK : K ≤ 1000) (hs : s < n) (hld : ∀ p x, p < n → x < K → ld p x < n)
    (h1 : X0 b1) (h2 : X0 b2) (h3 : X0 b3) (hX0 : ∀ k, X0 k → k < W0.heap.size) (hn₀ : n₀ ≤ W0.heap.size) (hR : ∀ W W', R W → Keep n₀ X0 W W' → R W') (hRW : R W0)
    (hlead : ∀ (i p x : Nat) (W : World), R W → good i → i < (bfsTo ld K s n).length → plB (bfsTo ld K s n) i = (p : Int) → p < n → x < K → Calls Tryd.prog 42 #[.agg #[.int .i64 (c.x p), .int .i64 (c.y p)], .int .i64 (x : Nat), .pointer (some ⟨ba, 0, none⟩), .pointer (some ⟨bb, 0, none⟩), .pointer (some ⟨bd, 0, none⟩)] W fun e W' => e = .returned (.agg #[.int .i64 (c.x (ld p x : Nat)), .int .i64 (c.y (ld p x : Nat))]) ∧ Below W.heap.size W W')
    (c1 : PBox c W0 b1 s) (c2 : W0.cell? ⟨b2, 0, none⟩ = some (.int .i64 K)) (c3 : W0.cell? ⟨b3, 0, none⟩ = some (.func (.func 42) #[] #[.pointer (some ⟨ba, 0, none⟩), .pointer (some ⟨bb, 0, none⟩), .pointer (some ⟨bd, 0, none⟩)])) :
    SeqF (fun pre : List (Nat × Value) => ∀ j, j < pre.length → good j) 70 #[] #[.pointer (some ⟨b1, 0, none⟩), .pointer (some ⟨b2, 0, none⟩), .pointer (some ⟨b3, 0, none⟩)] (encQ c (bfsTo ld K s n)) n₀ (WordGQ c (bfsTo ld K s n))
      (fun xs => xs.map (·.1) = List.range (bfsTo ld K s n).length) (fun pre => ∃ k, k ≤ (bfsTo ld K s n).length ∧ pre.map (·.1) = List.range k) W0 X0 := by
  obtain ⟨j0, hj, hy0, hy1, hy2⟩ := info_parts infoStepQ
  intro l J Jx W hW hJ hJx hok hY h0
  have hWs := hW.size
  have k0 : Keep n₀ X0 W0 W := Keep.of_below hW
  have d1' : PBox c W b1 s := (hW.block b1 (hX0 _ h1)).trans c1
  obtain ⟨d1, d1y⟩ := d1'.cells
  have d2 := (hW.cell (p := ⟨b2, 0, none⟩) (hX0 _ h2)).trans c2
  have d3 := (hW.cell (p := ⟨b3, 0, none⟩) (hX0 _ h3)).trans c3
  have hRw := hR _ _ hRW k0
  have hsz := hid hX0
  have Hlead := hid hlead
  have HY := hid hY
  have HR := hid hR
  have Hok := hid hok
  clear hlead hY hR hok c1 c2 c3 hX0
  obtain ⟨w1, hput, hmap, hgr⟩ := (SeenMapQ.made c n W).put hcok (by decide) s hs
  have hmm := @run_makeMap Tryd.prog
  have hgs := hgr.size
  have hWs1 : (W.alloc (.map #[] 0)).heap.size = W.heap.size + 1 := by simp
  have e1 : (W.alloc (.map #[] 0)).cell? ⟨b1, 0, none⟩ = some (.int .i64 (c.x s)) := ((bal (Below.refl _ W) _).cell (p := ⟨b1, 0, none⟩) (World.block_lt_of_cell? _ _ d1)).trans d1
  have e1y : (W.alloc (.map #[] 0)).cell? ⟨b1, 1, none⟩ = some (.int .i64 (c.y s)) := ((bal (Below.refl _ W) _).cell (p := ⟨b1, 1, none⟩) (World.block_lt_of_cell? _ _ d1y)).trans d1y
  have hB1 : Below W.heap.size W w1 := (bal (Below.refl _ W) _).grown hgr (by simp) (fun q hq => by cases hq; exact Nat.le_refl _)
  have f1 := (hB1.cell (p := ⟨b1, 0, none⟩) (World.block_lt_of_cell? _ _ d1)).trans d1
  have f1y := (hB1.cell (p := ⟨b1, 1, none⟩) (World.block_lt_of_cell? _ _ d1y)).trans d1y
  have f2 := (hB1.cell (p := ⟨b2, 0, none⟩) (World.block_lt_of_cell? _ _ d2)).trans d2
  have f3 := (hB1.cell (p := ⟨b3, 0, none⟩) (World.block_lt_of_cell? _ _ d3)).trans d3
  refine (callsIn_wide (n := 0)).1 ?_
  refine callsIn_of_wp Tryd.func70 rfl trivial ?_ rfl
  simp only [Tryd.ntmps70, List.size_toArray, List.length_cons, List.length_nil, Nat.reduceAdd, Nat.reduceSub, Array.replicate_succ, Array.replicate_zero, List.push_toArray, List.append_toArray, List.nil_append, List.cons_append]
  refine wpIn_wide.2 ?_
  have hX0W : ∀ k, X0 k → k < W.heap.size := fun k hk => by have := hsz.out k hk; omega
  have hST := SWQ.start (n₀ := n₀) hJ h0 hX0W hB1 (by omega) hmap
  have hgood := hid (fun i => GoodB.bfs (n := n) (K := K) (s := s) (ld := ld) hs hK hld i)
  have hsuc := hid (fun i => show bfsTo ld K s (i + 1) = (if i < (bfsTo ld K s i).length then rowB ld (bfsTo ld K s i) (plB (bfsTo ld K s i) i).toNat i K else bfsTo ld K s i) from rfl)
  have Hld := hid hld
  have HST := hid hST
  clear hST hmap hld
  go_wp2_with fail
  go_loopw [7] (fun r wr => ∃ (i b7 : Nat) (pre : List (Nat × Value)) (X : Blocks) (g cap : Nat), r = .pointer (some ⟨b7, 0, none⟩) ∧ i ≤ (bfsTo ld K s i).length ∧ pre.map (·.1) = List.range i ∧ SWQ c n J n₀ X0 W W.heap.size (w1.heap.size + 1) b7 i (bfsTo ld K s i) pre X g cap wr) (fun r wr => n + 1 - boxI r wr)
  case atStart => exact ⟨0, _, [], _, _, _, rfl, Nat.zero_le _, rfl, HST.out⟩
  case round =>
    obtain ⟨i, b7, pre, X, g, cap, rfl, hi, hpre, hSW⟩ := hrel
    have hgi := hgood.out i
    have hlen := hgi.len
    have m7 := hSW.ibox.cell
    have m7f := hSW.ibox.frozen
    have m6 := hSW.mem.box.cell
    have Hpre := hid hpre
    have HS := hid hSW
    clear hpre
    by_cases hlt : i < (bfsTo ld K s i).length
    · have hlts : (i : Int) < (bfsTo ld K s i).length := by omega
      obtain ⟨q1, q1y, _, _⟩ := flatBQ_get c _ i hlt
      rw [← hSW.mem.row.cellAt (i * 4) (by omega)] at q1
      rw [← hSW.mem.row.cellAt (i * 4 + 1) (by omega)] at q1y
      obtain ⟨p, hp, hpn⟩ := hgi.below i hlt
      rw [hp] at q1 q1y
      have hs1 := hsuc.out i
      rw [if_pos hlt, hp, Int.toNat_natCast] at hs1
      have hpreF : bfsTo ld K s i <+: bfsTo ld K s n := by
        have := bfs_pre_le ld K s i (n - i)
        rwa [show i + (n - i) = n by omega] at this
      have hgn := hgood.out n
      have hFl := hpreF.length_le
      have hpF : plB (bfsTo ld K s n) i = (p : Int) := (pre_pl hpreF i hlt).1.trans hp
      have hwF := wordB_pre hpreF hgi hgn i hlt
      obtain ⟨X9, hX9, hS9⟩ := hSW.box hJ (p : Int)
      have hP9 : PBox c (wr.alloc (.cells #[.int .i64 (c.x p), .int .i64 (c.y p)] 70)) wr.heap.size p := World.alloc_heap_new wr _
      obtain ⟨z1, z2⟩ := hP9.cells
      have n7 := hS9.ibox.cell
      have n6 := hS9.mem.box.cell
      have hG : WordGQ c (bfsTo ld K s n) X9 (i, .func (.func 71) #[] #[.pointer (some ⟨w1.heap.size + 1, 0, none⟩), .pointer (some ⟨b7, 0, none⟩)]) (wr.alloc (.cells #[.int .i64 (c.x p), .int .i64 (c.y p)] 70)) :=
        ⟨_, _, g, cap, _, _, rfl, hS9.mem.x6, hS9.x7, hS9.mem.xg, hS9.mem.box, hS9.ibox, hS9.mem.row, hgi.tree, hlt, by omega, hwF.symm⟩
      have hsp : ∃ k, k ≤ (bfsTo ld K s n).length ∧ (pre ++ [(i, Value.func (.func 71) #[] #[.pointer (some ⟨w1.heap.size + 1, 0, none⟩), .pointer (some ⟨b7, 0, none⟩)])]).map (·.1) = List.range k :=
        ⟨i + 1, by omega, by rw [List.map_append, Hpre.out, List.range_succ]; rfl⟩
      have hy0 := HY.out X9 pre _ _ hS9.xlt hS9.j hG hsp
      rw [show encQ c (bfsTo ld K s n) (i, Value.func (.func 71) #[] #[.pointer (some ⟨w1.heap.size + 1, 0, none⟩), .pointer (some ⟨b7, 0, none⟩)]) = #[.agg #[.int .i64 (c.x p), .int .i64 (c.y p)], Value.func (.func 71) #[] #[.pointer (some ⟨w1.heap.size + 1, 0, none⟩), .pointer (some ⟨b7, 0, none⟩)]] from by unfold encQ; rw [hpF]] at hy0
      have Hsp := hid hsp
      have Hs1 := hid hs1
      have HG := hid hgi
      have HS9 := hid hS9
      have HP9 := hid hP9
      have HpF := hid hpF
      clear hs1 hsp hG hpreF hgn hpF hwF hp hSW hgi hS9 hP9
      obtain ⟨pre', hpr'⟩ : ∃ q, pre ++ [(i, Value.func (.func 71) #[] #[.pointer (some ⟨w1.heap.size + 1, 0, none⟩), .pointer (some ⟨b7, 0, none⟩)])] = q := ⟨_, rfl⟩
      rw [hpr'] at hy0 Hsp
      have hpr1 : pre'.map (·.1) = List.range (i + 1) := by rw [← hpr', List.map_append, Hpre.out, List.range_succ]; rfl
      clear hpr'
      obtain ⟨fn, tmps, assign, body, hy, hRd⟩ := hy0
      have Hrd := hid hRd
      have Hpr1 := hid hpr1
      clear hRd hpr1
      have hm0 : boxI (.pointer (some ⟨b7, 0, none⟩)) wr = i := by simp [boxI, m7]
      have hFl2 : i < (bfsTo ld K s n).length := by omega
      generalize hBB : bfsTo ld K s i = B at *
      go_upto_region 6 with fail
      generalize hW9 : wr.alloc (.cells #[.int .i64 (c.x p), .int .i64 (c.y p)] 70) = W9 at *
      generalize hb8 : wr.heap.size = b8 at *
      refine (wpIn_wide (n := 0)).1 ?_
      gi_wp2_with fail
      refine ⟨rfl, Hrd.out.mono ?_⟩
      rintro e W3 ⟨⟨rfl, hJ3⟩ | ⟨rfl, hJ3⟩, hk3⟩
      · have hgoodi : good i := Hok.out _ pre' W3 hJ3 i (by have := congrArg List.length Hpr1.out; simp at this; omega)
        have S3 := HS9.out.round hJ3 hk3
        have P3 : PBox c W3 b8 p := (hk3.block _ HP9.out.lt (.inr hX9)).trans HP9.out
        have r2 := keep_cell S3.kept h2 d2
        clear HS HS9 HP9 m7 m6 n6 n7 z1 z2 q1 q1y hk3 hJ3
        gi_wp2_with fail
        go_wp2_with fail
        go_loopw [34] (fun r wr => ∃ (x : Nat) (X : Blocks) (g cap : Nat), x ≤ K ∧ r = .int .i64 x ∧ PBox c wr b8 p ∧ SWQ c n J n₀ X0 W W.heap.size (w1.heap.size + 1) b7 i (rowB ld B p i x) pre' X g cap wr) (fun r _ => K - (intOf r).toNat)
        case atStart => exact ⟨0, X9, g, cap, Nat.zero_le _, rfl, P3, S3⟩
        case round =>
          clear S3 r2 P3
          obtain ⟨x, X, g, cap, hx, rfl, hPB, hS⟩ := hrel
          by_cases hxl : x < K
          · have hxs : (x : Int) < K := by omega
            have hgx := GoodB.row HG.out hlt x (by omega) (fun y hy => Hld.out p y hpn (by omega))
            have hlx := hgx.len
            have hRr := HR.out _ _ hRw hS.kept
            have hL := Hlead.out i p x wr hRr hgoodi hFl2 HpF.out hpn hxl
            obtain ⟨y1, y2⟩ := hPB.cells
            have HPB := hid hPB
            have hqn := Hld.out p x hpn hxl
            have r3 := keep_cell hS.kept h3 d3
            have HSx := hid hS
            have Hs2 := hid (show rowB ld B p i (x + 1) = (if hasP (rowB ld B p i x) (ld p x) then rowB ld B p i x else rowB ld B p i x ++ [(((ld p x : Nat) : Int), (i : Int), (x : Int))]) from rfl)
            clear hS hgx
            generalize rowB ld B p i x = C at *
            generalize ld p x = q at *
            go_wp2_with fail
            refine hL.mono ?_
            rintro e w2 ⟨rfl, hb⟩
            have hbn : Below w2.heap.size w2 (w2.alloc (.cells #[.int .i64 (c.x q), .int .i64 (c.y q)] 70)) := bal (Below.refl _ w2) _
            have hb' : Below wr.heap.size wr (w2.alloc (.cells #[.int .i64 (c.x q), .int .i64 (c.y q)] 70)) := hb.trans (hbn.mono hb.size)
            have S2 := HSx.out.below hJ hb'
            have P2 : PBox c (w2.alloc (.cells #[.int .i64 (c.x q), .int .i64 (c.y q)] 70)) b8 p := (hb'.block _ HPB.out.lt).trans HPB.out
            have hNP : PBox c (w2.alloc (.cells #[.int .i64 (c.x q), .int .i64 (c.y q)] 70)) w2.heap.size q := World.alloc_heap_new w2 _
            obtain ⟨v1, v2⟩ := hNP.cells
            have hlk := S2.mem.map.look hcok q hqn
            have HP2 := hid P2
            have HNP := hid hNP
            have hszw2 : (w2.alloc (.cells #[.int .i64 (c.x q), .int .i64 (c.y q)] 70)).heap.size = w2.heap.size + 1 := by simp
            clear P2 hNP hbn
            cases hb2 : hasP C q with
            | true =>
              rw [hb2] at hlk
              have HS2 := hid S2
              clear S2
              go_wp2
              go_roundw
              case rel => exact ⟨x + 1, X, g, cap, by omega, by go_num, HP2.out, by rw [Hs2.out, if_pos hb2]; exact HS2.out⟩
              case measure => simp [intOf]; omega
            | false =>
              rw [hb2] at hlk
              obtain ⟨w3, hput3, hm3, hg3⟩ := S2.mem.map.put hcok (by omega) q hqn
              obtain ⟨a1, a2, a3⟩ := S2.mem.apart
              obtain ⟨o1, o2, o3⟩ := S2.off HP2.out
              obtain ⟨o4, o5, o6⟩ := S2.off HNP.out
              have hs3 := hg3.size
              have hgl := own_lt S2.mem.row
              have hbl := S2.mem.box.lt
              have h7l := S2.ibox.lt
              have hml := S2.mem.map.lt
              have hw2 := S2.kept.size
              have hpl := HP2.out.lt
              have hnl := HNP.out.lt
              have t6 : Boxed w3 (w1.heap.size + 1) 112 (.slice (some ⟨g, 0, none⟩) C.length cap) := (hg3.block _ hbl (by simpa using fun e => a1 e.symm)).trans S2.mem.box
              have t7 : Boxed w3 b7 3 (.int .i64 i) := (hg3.block b7 h7l (fun e => by
                obtain ⟨es, cl, hmp⟩ := S2.mem.map.isMap
                have h7 := S2.ibox
                unfold Boxed at h7
                cases e
                rw [hmp] at h7; cases h7)).trans S2.ibox
              have tN : PBox c w3 w2.heap.size q := (hg3.block _ hnl (by simpa using o4)).trans HNP.out
              have tP : PBox c w3 b8 p := (hg3.block _ hpl (by simpa using o1)).trans HP2.out
              have tr := owns_block S2.mem.row (hg3.block g hgl.2 (by simpa using fun e => a2 e.symm))
              have t6c := t6.cell
              have t7c := t7.cell
              obtain ⟨t8c, t8d⟩ := tN.cells
              have HS2 := hid S2
              have Htr := hid tr
              have Hm3 := hid hm3
              have T6 := hid t6
              have TP := hid tP
              have hb7' := hid hb2
              clear S2 tr hm3 t6 t7 tN tP
              have hts : (Value.slice (some ⟨g, 0, none⟩) C.length cap).ownBlock = some g := rfl
              go_wp2_with (at_builtin; refine wpList_append_lies _ rfl _ _ 112 rfl W.heap.size 111 j0 (.agg #[.int .i64 0, .int .i64 0, .int .i64 0, .int .i64 0]) 4 32 Tryd.underlying112 hj hy0 hy1 hy2 rfl (by decide) (.slice (some ⟨g, 0, none⟩) C.length cap) C.length (flatBQ c C) rfl (owns_block Htr.out (Below.heap_alloc w3 _ _ (by omega))) ⟨w3.heap.size, 0, none⟩ 1 1 [.int .i64 (c.x q), .int .i64 (c.y q), .int .i64 (i : Int), .int .i64 (x : Int)] rfl rfl (cells_four _ _ _ _ _ _) (by simp [Value.oneCell']) (by decide) (by unfold maxLen; omega) (by omega) (by simp; omega) _ rfl ?_; intro g1 cap1 w5 hown' hgrow' hat hlt1; have t6w : Boxed w5 (w1.heap.size + 1) 112 (.slice (some ⟨g, 0, none⟩) C.length cap) := (hgrow'.block _ (by simp; omega) (by rw [hts]; simpa using a3)).trans ((Below.heap_alloc w3 _ _ (by omega)).trans T6.out); have t6wc := t6w.cell; have t6wf := t6w.frozen)
              have hPf : PBox c (w5.setCell ⟨w1.heap.size + 1, 0, none⟩ (.slice (some ⟨g1, 0, none⟩) (C.length + 1) cap1)) b8 p := (Below.heap_setCell _ _ _ _ (by simpa using o2)).trans ((hgrow'.block _ (by simp; omega) o3).trans ((Below.heap_alloc w3 _ _ (by omega)).trans TP.out))
              obtain ⟨X', hX'⟩ := HS2.out.add hJ (by omega) hX0W Hm3.out hg3 hown' hgrow' (hat.imp (fun e => by rw [hts] at e; exact Option.some.inj e) id)
              have HX := hid hX'
              have HPf := hid hPf
              clear hX' hPf
              go_wp2
              go_roundw
              case rel => exact ⟨x + 1, X', g1, cap1, by omega, by go_num, HPf.out, by rw [Hs2.out, if_neg (by rw [hb7'.out]; decide)]; exact HX.out⟩
              case measure => simp [intOf]; omega
          · obtain rfl : x = K := by omega
            obtain ⟨X', hX'⟩ := hS.next hJ (i' := i + 1)
            have n7 := hS.ibox.cell
            have n7f := hS.ibox.frozen
            have hle := (rowB_pre ld B p i x).length_le
            have HX := hid hX'
            have Hle := hid hle
            clear hS hX' hle
            go_wp2
            go_roundw
            case rel => exact ⟨i + 1, _, pre', X', g, cap, rfl, by rw [Hs1.out]; have := Hle.out; omega, Hpr1.out, by rw [Hs1.out]; exact HX.out⟩
            case measure =>
              have hi1 : boxI (.pointer (some ⟨wr.heap.size, 0, none⟩)) (wr.alloc (.cells #[.int .i64 ((i : Int) + 1)] 3)) = i + 1 := by simp [boxI]
              simp only [hm0, hi1]; omega
      · gi_wp2_with fail
        go_wp2
        (try simp only [Exit.inBlock, Exit.then])
        refine bodyPost_ret (results_none rfl _ _ _) rfl ?_
        exact ⟨⟨_, rfl⟩, .inr ⟨_, pre', Hsp.out, hJ3⟩⟩
    · have hF : bfsTo ld K s n = bfsTo ld K s i := by
        have := bfs_stop ld K s i (by omega) (n - i)
        rwa [show i + (n - i) = n by omega] at this
      have hil : i = (bfsTo ld K s i).length := by omega
      have hlts : ¬ ((i : Int) < (bfsTo ld K s i).length) := by omega
      have HF := hid (show pre.map (·.1) = List.range (bfsTo ld K s n).length by rw [hF, ← hil]; exact Hpre.out)
      have Hj := hid hSW.j
      clear hF hil hSW hgi
      generalize hBB : bfsTo ld K s i = B at *
      go_wp2
      refine bodyPost_end (results_none rfl _ _ _) rfl ?_
      exact ⟨⟨_, rfl⟩, .inl ⟨_, pre, HF.out, Hj.out⟩⟩
end Go.Proofs.YtbhhemidnmaodaaDoor
