/-
  Parse, where the string reads as an automaton.
-/
import Derived.Test.YtibaihchnbbokaaDoorP2
import Derived.Lib.UnsafeStr
namespace Go.Proofs.YtibaihchnbbokaaDoor
open Go.RowKit Go.Shelf

theorem shaped_below {w w' : World} (h : w.ShapedOpen Tryd.prog) (hb : Below w.heap.size w w') : w'.ShapedOpen Tryd.prog := World.ShapedOpen.keptBut h (hb.frame (fun _ => False)) (fun _ h => h.elim)

theorem bytes_below (w : World) (t : TypeId) (s : ByteArray) : Below w.heap.size w (Lib.bytesWorld w t s) := by
  refine ⟨rfl, rfl, rfl, ?_, fun k hk => ?_⟩
  · exact (Lib.below_freeze (bal (Below.refl _ w).drew _) (Nat.le_refl _) _).size
  · exact (Lib.below_freeze (bal (Below.refl _ w).drew _) (Nat.le_refl _) _).block k hk

theorem cells_get {w : World} {b : Nat} {l : List ByteArray} {t : TypeId} (h : w.heap[b]? = some (.cells (l.map Value.string).toArray t (0, 0))) (i : Nat) (hi : i < l.length) : w.cell? ⟨b, i, none⟩ = some (.string (l.getD i ⟨#[]⟩)) := by
  simp [World.cell?, h, List.getElem?_eq_getElem hi, List.getD_eq_getElem?_getD]

theorem three_alloc (w : World) (a b c : Obj) : (((w.alloc a).alloc b).alloc c).heap[w.heap.size]? = some a ∧ (((w.alloc a).alloc b).alloc c).heap[w.heap.size + 1]? = some b ∧ (((w.alloc a).alloc b).alloc c).heap[w.heap.size + 2]? = some c := by
  have e1 : (w.alloc a).heap.size = w.heap.size + 1 := by simp
  have e2 : ((w.alloc a).alloc b).heap.size = w.heap.size + 2 := by simp
  refine ⟨?_, ?_, ?_⟩
  · rw [Below.heap_alloc _ _ _ (by omega), Below.heap_alloc _ _ _ (by omega)]; exact heap_alloc_new _ _
  · rw [Below.heap_alloc _ _ _ (by omega), ← e1]; exact heap_alloc_new _ _
  · rw [← e2]; exact heap_alloc_new _ _

theorem map_take_succ (r : List Int) (j : Nat) (hj : j < r.length) : (r.take (j + 1)).map (fun x => Value.int .i64 x) = (r.take j).map (fun x => Value.int .i64 x) ++ [.int .i64 (r.getD j 0)] := by
  rw [List.take_succ_eq_append_getElem hj, List.map_append, getD_elem r j hj]; rfl

theorem off_of_own {W : World} {B base n g cap : Nat} {gg : Option Nat} {row : List Int} (h : W.ownsRow B 3 1 (.slice (some ⟨g, 0, none⟩) n cap) n (row.map fun x => .int .i64 x)) (hn : row.length = n) (hb : base ≤ g) (hne : some g ≠ gg) (hl : n ≤ big) : IntsOff W base gg (.slice (some ⟨g, 0, none⟩) n cap) row := by
  subst hn
  refine ⟨_, cap, rfl, hl, fun i hi => ⟨g, 0, rfl, hb, hne, ?_⟩⟩
  rw [Nat.zero_add, h.cellAt i (by omega)]
  simp [List.getElem?_map, List.getElem?_eq_getElem hi, List.getD_eq_getElem?_getD]

set_option maxRecDepth 100000 in
set_option maxHeartbeats 4000000 in
theorem Parse_ok (s : ByteArray) (m : List (List Int)) (w : World) (hsh : w.ShapedOpen Tryd.prog) (hrd : Reads s m) (hv : validM m = true) (ht : strB (textM m) = s) :
    Calls Tryd.prog 36 #[.string s] w fun e w' => ∃ v, e = .returned (.tuple #[.agg #[v], .int .i64 0]) ∧ Rows w' v m ∧ Below w.heap.size w w' := by
  obtain ⟨i0, hi, hz0, hz1, hz2⟩ := info_parts infoRow
  obtain ⟨j0, hj, hy0, hy1, hy2⟩ := info_parts infoInt
  obtain ⟨p1, p2, p3, p4, p5⟩ := valid_parts hv
  obtain ⟨hsz, hpl, hrd⟩ := hrd
  have Hrd := hid hrd
  have P5 := hid p5
  clear hrd p5
  have hszi : ¬ ((s.size : Int) > 1080) := by omega
  go_enter Tryd.func36, Tryd.ntmps36
  go_wp2_with fail
  have hS := Tryd.strings_Split_shaped s ⟨#[32]⟩ _ (shaped_below hsh (bal (bal (Below.refl _ w) (.cells #[.slice none 0 0] 24)) (.cells #[.slice none 0 0] 24))) (by omega) (by show 1 ≤ 1; omega)
  rw [← parts_length, hpl] at hS
  refine hS.mono ?_
  clear hS
  rintro e w1 ⟨rfl, hw1⟩
  obtain ⟨f0, f1, f2⟩ := three_alloc w (.cells #[.slice none 0 0] 24) (.cells #[.slice none 0 0] 24) (.cells ((parts 32 s).map Value.string).toArray 9)
  have hB1 := bal (bal (bal (Below.refl _ w) (.cells #[.slice none 0 0] 24)) (.cells #[.slice none 0 0] 24)) (.cells ((parts 32 s).map Value.string).toArray 9)
  have hsz1 : ((((w.alloc (.cells #[.slice none 0 0] 24)).alloc (.cells #[.slice none 0 0] 24)).alloc (.cells ((parts 32 s).map Value.string).toArray 9))).heap.size = w.heap.size + 3 := by simp
  generalize hW : (((w.alloc (.cells #[.slice none 0 0] 24)).alloc (.cells #[.slice none 0 0] 24)).alloc (.cells ((parts 32 s).map Value.string).toArray 9)) = W at f0 f1 f2 hB1 hsz1
  obtain rfl : w1 = W := hw1.trans hW
  clear hw1 hW
  go_wp2
  go_loopw [19] (fun i wr => ∃ k : Nat, k ≤ m.length ∧ i = .int .i64 k ∧ Below w.heap.size w wr ∧ wr.heap[w.heap.size]? = some (.cells #[.slice none 0 0] 24 (0, 0)) ∧ wr.heap[w.heap.size + 2]? = some (.cells ((parts 32 s).map Value.string).toArray 9 (0, 0)) ∧ ∃ v, wr.heap[w.heap.size + 1]? = some (.cells #[v] 24 (0, 0)) ∧ MRows wr (w.heap.size + 3) v (m.take k)) (fun i _ => m.length - (intOf i).toNat)
  case atStart => exact ⟨0, Nat.zero_le _, rfl, hB1, f0, f2, _, f1, MRows.nil _ _⟩
  case round =>
    obtain ⟨k, hk, rfl, hB, g0, g2, v, g1, hM⟩ := hrel
    by_cases hlt : k < m.length
    · obtain ⟨q1, q2, q3⟩ := Hrd.out k hlt
      have c1 := cells_get g2 k (by rw [hpl]; exact hlt)
      have hbw : w.heap.size + 2 < wr.heap.size := lt_of_block g2
      obtain ⟨q4, q5⟩ := P5.out k hlt
      generalize (parts 32 s).getD k ⟨#[]⟩ = line at *
      have Hm := hid (show m.take (k + 1) = m.take k ++ [m.getD k []] by rw [List.take_succ_eq_append_getElem hlt]; simp [List.getD_eq_getElem?_getD, List.getElem?_eq_getElem hlt])
      generalize m.getD k [] = row at *
      have Q3 := hid q3
      have Q5 := hid q5
      clear q3 q5
      have hS := Tryd.strings_Split_shaped line ⟨#[46]⟩ wr (shaped_below hsh hB) (by omega) (by show 1 ≤ 1; omega)
      rw [← parts_length, q2, q4] at hS
      obtain ⟨wo, rfl⟩ : ∃ wo : World, wo = wr := ⟨_, rfl⟩
      go_wp2_with fail
      refine hS.mono ?_
      clear hS
      rintro e w2 ⟨rfl, hw2⟩
      have e0 : (wo.alloc (.cells ((parts 46 line).map Value.string).toArray 9)).heap[wo.heap.size]? = some (.cells ((parts 46 line).map Value.string).toArray 9 (0, 0)) := heap_alloc_new _ _
      have hB2 := bal (Below.refl _ wo) (.cells ((parts 46 line).map Value.string).toArray 9)
      have hs2 : (wo.alloc (.cells ((parts 46 line).map Value.string).toArray 9)).heap.size = wo.heap.size + 1 := by simp
      generalize hW : wo.alloc (.cells ((parts 46 line).map Value.string).toArray 9) = W at e0 hB2 hs2
      obtain rfl : w2 = W := hw2.trans hW
      clear hw2 hW
      go_wp2
      go_loopw [7, 26] (fun u i wi => ∃ j : Nat, j ≤ letters m ∧ i = .int .i64 j ∧ Below (wo.heap.size + 1) w2 wi ∧ wi.ownsRow (wo.heap.size + 1) 3 1 u j ((row.take j).map fun x => .int .i64 x)) (fun _ i _ => letters m - (intOf i).toNat)
      case atStart => exact ⟨0, Nat.zero_le _, rfl, Below.refl _ _, ⟨rfl, .inl ⟨rfl, rfl⟩⟩⟩
      case round =>
        obtain ⟨j, hjl, rfl, hB3, ho⟩ := hrel
        have hbw3 : wo.heap.size + 1 ≤ wr.heap.size := by have := hB3.size; omega
        have g3 : wr.heap[wo.heap.size]? = some (.cells ((parts 46 line).map Value.string).toArray 9 (0, 0)) := (hB3.block _ (by omega)).trans e0
        by_cases hjlt : j < letters m
        · obtain ⟨r1, r2⟩ := Q3.out j (by omega)
          have c2 := cells_get g3 j (by rw [q2]; omega)
          have Hj := hid (map_take_succ row j (by omega))
          generalize (parts 46 line).getD j ⟨#[]⟩ = f at *
          generalize row.getD j 0 = q at *
          go_wp2_with fail
          refine (Tryd.strconv_Atoi_ok f (by omega) q r2 _).mono ?_
          rintro e w4 ⟨rfl, hw4⟩
          have hB4 : Below wr.heap.size wr w4 := by
            rcases hw4 with rfl | ⟨t, rfl⟩
            · exact Below.refl _ _
            · exact bytes_below _ _ _
          clear hw4
          have ho4 := owns_kept ho (fun k _ hk => hB4.block k hk)
          have hs4 := hB4.size
          go_wp2_with (at_builtin; refine wpList_append_own_at _ rfl _ _ 25 rfl (wo.heap.size + 1) 3 j0 (.int .i64 0) 1 8 Tryd.underlying25 hj hy0 hy1 hy2 rfl (by decide) _ _ _ rfl (ho4.alloc _) ⟨w4.heap.size, 0, none⟩ 1 1 [.int .i64 q] rfl rfl (cell_one_new _ _ _) (by simp [Value.oneCell']) (by unfold maxLen; omega) (by omega) (by simp; omega) ?_; intro v' w5 hown' hgrow' _ hat)
          go_roundw
          case rel =>
            refine ⟨j + 1, by omega, by go_num, ?_, by rw [Hj.out]; exact hown'⟩
            refine ((hB3.trans (hB4.mono hbw3)).alloc (by omega) _).grown hgrow' (by simp; omega) (fun k hk => ?_)
            rcases ho4.2 with ⟨hu, _⟩ | ⟨g, cap, cur, hu, hg, _⟩
            · rw [hu] at hk; cases hk
            · rw [hu] at hk; cases hk; exact hg
          case measure => simp [intOf]; omega
        · obtain rfl : j = letters m := by omega
          have hrowe : (row.take (letters m)).map (fun x => Value.int .i64 x) = row.map fun x => .int .i64 x := by rw [List.take_of_length_le (by omega)]
          rw [hrowe] at ho
          obtain ⟨g, capg, rfl, hgb⟩ : ∃ g cap, u7 = .slice (some ⟨g, 0, none⟩) (letters m) cap ∧ wo.heap.size + 1 ≤ g := by
            rcases ho.2 with ⟨_, h0⟩ | ⟨g, cap, cur, hu, hg, _⟩
            · omega
            · exact ⟨g, cap, hu, hg⟩
          have hkl : (m.take k).length = k := by simp; omega
          obtain ⟨vA, vc, rfl, hvo⟩ : ∃ A c, v = .slice A k c ∧ ∀ g', (Value.slice A k c).ownBlock = some g' → w.heap.size + 3 ≤ g' ∧ g' < wo.heap.size := by
            obtain ⟨xs, hxo, _⟩ := hM
            rw [hkl] at hxo
            rcases hxo.2 with ⟨hu, h0⟩ | ⟨g, cap, cur, hu, hg, hh, _⟩
            · exact ⟨none, 0, by rw [hu, h0], fun g' h => by cases h⟩
            · exact ⟨_, cap, hu, fun g' h => by cases h; exact ⟨hg, lt_of_block hh⟩⟩
          have hMr := hM.kept (W' := wr) (fun k _ hk => (hB3.block k (by omega)).trans (hB2.block k hk))
          obtain ⟨xs, hxo, hxx⟩ := hMr
          rw [hkl] at hxo
          have hvne : ∀ b, b < w.heap.size + 3 → some b ≠ (Value.slice vA k vc).ownBlock := fun b hb e => by have := (hvo b e.symm).1; omega
          have hbb : wr.heap[w.heap.size + 1]? = some (.cells #[.slice vA k vc] 24 (0, 0)) := (hB3.block _ (by omega)).trans ((hB2.block _ (by omega)).trans g1)
          have hb0 : wr.heap[w.heap.size]? = some (.cells #[.slice none 0 0] 24 (0, 0)) := (hB3.block _ (by omega)).trans ((hB2.block _ (by omega)).trans g0)
          have hb2 : wr.heap[w.heap.size + 2]? = some (.cells ((parts 32 s).map Value.string).toArray 9 (0, 0)) := (hB3.block _ (by omega)).trans ((hB2.block _ (by omega)).trans g2)
          have hvc : wr.cell? ⟨w.heap.size + 1, 0, none⟩ = some (.slice vA k vc) := by simp [World.cell?, hbb]
          have hbl : w.heap.size + 1 < wr.heap.size := by omega
          have Hbb := hid hbb
          have Hb0 := hid hb0
          have Hb2 := hid hb2
          clear hbb hb0 hb2
          go_wp2_with (at_builtin; refine wpList_append_own_at _ rfl _ _ 22 rfl (w.heap.size + 3) 25 i0 (.slice none 0 0) 1 24 Tryd.underlying22 hi hz0 hz1 hz2 rfl (by decide) _ _ _ rfl (hxo.alloc _) ⟨wr.heap.size, 0, none⟩ 1 1 [.slice (some ⟨g, 0, none⟩) (letters m) capg] rfl rfl (cell_one_new _ _ _) (by simp [Value.oneCell']) (by unfold maxLen; omega) (by omega) (by simp; omega) ?_; intro v' w5 hown' hgrow' _ hat; obtain ⟨g', cap', rfl⟩ := ownsRow_succ hown'; have hc1 : w5.heap[w.heap.size + 1]? = _ := (hgrow'.block (w.heap.size + 1) (by simp; omega) (hvne _ (by omega))).trans ((Below.heap_alloc _ _ _ (by omega)).trans Hbb.out); have hc2 := cell_of_one hc1; have hc3 := free_of_one hc1; clear hc1)
          go_roundw
          case rel =>
            have hcut : ∀ b, b < w.heap.size + 3 → w5.heap[b]? = wr.heap[b]? := fun b hb => (hgrow'.block b (by simp; omega) (hvne _ hb)).trans (Below.heap_alloc _ _ _ (by omega))
            refine ⟨k + 1, by omega, by go_num, ?_, ?_, ?_, .slice (some ⟨g', 0, none⟩) (k + 1) cap', ?_, ?_⟩
            · refine Below.setCell ((((hB.trans (hB2.mono (by omega))).trans (hB3.mono (by omega))).alloc (by omega) _).grown hgrow' (by simp; omega) (fun q hq => by have := (hvo q hq).1; omega)) (Nat.le_succ _) _
            · rw [Below.heap_setCell _ _ _ _ (by simp), hcut _ (by omega)]; exact Hb0.out
            · rw [Below.heap_setCell _ _ _ _ (by simp), hcut _ (by omega)]; exact Hb2.out
            · have := heap_setCell_same w5 (w.heap.size + 1) 0 _ _ (.slice (some ⟨g', 0, none⟩) (k + 1) cap') ((hcut _ (by omega)).trans Hbb.out)
              simpa using this
            · have hap := MRows.appended (W := wr.alloc (.cells #[.slice (some ⟨g, 0, none⟩) (letters m) capg] 25)) (base := w.heap.size + 3) (v := .slice vA k vc) (m := m.take k) (l := row) (xs := xs) (u := .slice (some ⟨g, 0, none⟩) (letters m) capg)
                (fun i hi => (hxx i hi).kept (fun q _ hq _ => Below.heap_alloc _ _ _ hq) (fun _ _ h => h)) (by have := hxo.1; omega)
                (off_of_own (ho.alloc _) (by omega) (by omega) (fun e => by have := (hvo g e.symm).2; omega) (by unfold big; omega)) (by rw [hkl]; exact hown') hgrow' hat
              rw [Hm.out]
              exact hap.kept fun q hq _ => Below.heap_setCell _ _ _ _ (by simp; omega)
          case measure => simp [intOf]; omega
    · obtain rfl : k = m.length := by omega
      have hkl : m.take m.length = m := List.take_of_length_le (Nat.le_refl _)
      rw [hkl] at hM
      have hR := hM.rows (by unfold big; omega)
      obtain ⟨vA, vc, rfl⟩ : ∃ A c, v = .slice A m.length c := by obtain ⟨A, c, rfl, _⟩ := hR; exact ⟨A, c, rfl⟩
      have hbl : w.heap.size + 1 < wr.heap.size := lt_of_block g1
      have c1 := cell_of_one g1
      have hval := Valid_any _ m wr hR
      rw [hv] at hval
      have hbl0 : w.heap.size < wr.heap.size := lt_of_block g0
      have G0 := hid g0
      clear hsz g0 g1 g2
      go_wp2_with fail
      refine hval.mono ?_
      clear hval
      rintro e w4 ⟨rfl, hb4⟩
      have c2 := (hb4.cell (p := ⟨w.heap.size + 1, 0, none⟩) hbl).trans c1
      have hs4 := hb4.size
      have htx := text_any _ m w4 (hR.below hb4) hv
      rw [ht] at htx
      go_wp2_with fail
      refine htx.mono ?_
      clear htx
      rintro e w5 ⟨rfl, hb5⟩
      have hs5 := hb5.size
      have hb45 := hb4.trans (hb5.mono hs4)
      have c3 := (hb5.cell (p := ⟨w.heap.size + 1, 0, none⟩) (by show w.heap.size + 1 < _; omega)).trans c2
      have g5 := (hb45.block _ hbl0).trans G0.out
      have d1 := cell_of_one g5
      have d2 := free_of_one g5
      have g6 := heap_setCell_same w5 w.heap.size 0 _ _ (.slice vA m.length vc) g5
      have d3 : (w5.setCell ⟨w.heap.size, 0, none⟩ (.slice vA m.length vc)).cell? ⟨w.heap.size, 0, none⟩ = some (.slice vA m.length vc) := cell_of_one (by simpa using g6)
      have hR5 : Rows (w5.setCell ⟨w.heap.size, 0, none⟩ (.slice vA m.length vc)) (.slice vA m.length vc) m := (hM.kept (fun q hq hs => (Below.heap_setCell _ _ _ _ (by simp; omega)).trans (hb45.block q hs))).rows (by unfold big; omega)
      have hBB : Below w.heap.size w (w5.setCell ⟨w.heap.size, 0, none⟩ (.slice vA m.length vc)) := (hB.trans (hb45.mono (by omega))).setCell (Nat.le_refl _) _
      have HR := hid hR5
      have HB := hid hBB
      clear g5 g6 hR5 hBB hM
      go_wp2
      (try simp only [Exit.inBlock, Exit.then])
      refine bodyPost_ret (v := .tuple #[.agg #[.slice vA m.length vc], .int .i64 0]) ?_ rfl ⟨_, rfl, HR.out, HB.out⟩
      rw [results_cell_tmp rfl]
      go_simp
end Go.Proofs.YtibaihchnbbokaaDoor
