/-
  Text; Parse, where no automaton has the string.
-/
import Derived.Test.YtibaihchnbbokaaDoorM3
import Derived.Test.YtibaihchnbbokaaDoorP3
import Derived.Test.YtibaihchnbbokaaDoorP5
import Derived.Shelf.Strconv.AtoiAll
namespace Go.Proofs.YtibaihchnbbokaaDoor
open Go.RowKit Go.Shelf

set_option maxHeartbeats 400000 in
theorem Text_form (v : Value) (m : List (List Int)) (w : World) (h : Rows w v m) (hv : validM m = false) :
    Calls Tryd.prog 35 #[.agg #[v]] w fun e w' => e = .returned (.tuple #[.string ⟨#[]⟩, .int .i64 1]) ∧ Below w.heap.size w w' := by
  have hr := h.alloc (.cells #[v] 24)
  obtain ⟨A, cap, rfl, hml, hc⟩ := h
  clear hc
  go_enter Tryd.func35, Tryd.ntmps35
  go_wp2_with fail
  refine (Valid_bool _ m false _ hr hv).mono ?_
  rintro e w1 ⟨rfl, hb1⟩
  go_wp2
  go_ret2
  exact ⟨rfl, btr (bal (Below.refl _ _) _) hb1⟩

set_option maxHeartbeats 400000 in
theorem Text_ok (v : Value) (m : List (List Int)) (w : World) (h : Rows w v m) (hv : validM m = true) :
    Calls Tryd.prog 35 #[.agg #[v]] w fun e w' => e = .returned (.tuple #[.string (strB (textM m)), .int .i64 0]) ∧ Below w.heap.size w w' := by
  have hr := h.alloc (.cells #[v] 24)
  obtain ⟨A, cap, rfl, hml, hc⟩ := h
  clear hc
  go_enter Tryd.func35, Tryd.ntmps35
  go_wp2_with fail
  refine (Valid_bool _ m true _ hr hv).mono ?_
  rintro e w1 ⟨rfl, hb1⟩
  have hbx : w1.cell? ⟨w.heap.size, 0, none⟩ = some (.slice A m.length cap) := (hb1.cell (p := ⟨w.heap.size, 0, none⟩) (by simp)).trans (by simp [go_sem])
  have hr1 := hr.below hb1
  go_wp2_with fail
  refine (text_any _ m _ hr1 hv).mono ?_
  rintro e w2 ⟨rfl, hb2⟩
  go_wp2
  go_ret2
  exact ⟨rfl, btr (btr (bal (Below.refl _ _) _) hb1) hb2⟩

/-- The two errors that the library lays. -/
def Errs (w : World) : Prop := ∃ t1 p1 t2 p2, w.cell? ⟨1, 0, none⟩ = some (.iface t1 p1) ∧ w.cell? ⟨2, 0, none⟩ = some (.iface t2 p2)
theorem Errs.below {w w' : World} (h : Errs w) (hb : Below w.heap.size w w') : Errs w' := by
  obtain ⟨t1, p1, t2, p2, h1, h2⟩ := h
  exact ⟨t1, p1, t2, p2, (hb.cell (World.block_lt_of_cell? _ _ h1)).trans h1, (hb.cell (World.block_lt_of_cell? _ _ h2)).trans h2⟩

/-- A number and no error; or an error. -/
def AtoiEnds (w : World) (e : Ending) (w' : World) : Prop := Below w.heap.size w w' ∧ ((∃ q : Int, e = .returned (.tuple #[.int .i64 q, .nilIface])) ∨ ∃ (q : Int) (t : TypeId) (p : Value), e = .returned (.tuple #[.int .i64 q, .iface t p]))
theorem Atoi_any (s : ByteArray) (w : World) (hs : s.size ≤ 100000) (hE : Errs w) : Calls Tryd.prog 70 #[.string s] w (AtoiEnds w) := by
  obtain ⟨t1, p1, t2, p2, h1, h2⟩ := hE
  cases h : Lib.atoiAll s.data.toList
  · refine (Tryd.strconv_Atoi_ok s (by omega) _ h w).mono ?_
    rintro e w' ⟨rfl, hw⟩
    refine ⟨?_, .inl ⟨_, rfl⟩⟩
    rcases hw with rfl | ⟨t, rfl⟩
    · exact Below.refl _ _
    · exact bytes_below _ _ _
  · refine (Any.strconv_Atoi_syntax Tryd.laysC172 s (by omega) h _ w h1 (.inr ⟨t1, p1, rfl⟩)).mono ?_
    rintro e w' ⟨N, rfl, _, _, hb⟩
    exact ⟨hb, .inr ⟨_, _, _, rfl⟩⟩
  · refine (Any.strconv_Atoi_range Tryd.laysC172 s (by omega) h _ w h2 (.inr ⟨t2, p2, rfl⟩)).mono ?_
    rintro e w' ⟨N, rfl, _, _, hb⟩
    exact ⟨hb, .inr ⟨_, _, _, rfl⟩⟩

theorem str_ne {a b : ByteArray} (h : a ≠ b) : (a.toList == b.toList) = false := by
  rw [beq_eq_false_iff_ne]
  intro e
  rw [ByteArray.toList_eq, ByteArray.toList_eq] at e
  obtain ⟨⟨la⟩⟩ := a
  obtain ⟨⟨lb⟩⟩ := b
  exact h (by have : la = lb := e; rw [this])
theorem piece_size (sep : ByteArray) : ∀ (k : Nat) (s : ByteArray), ∀ x ∈ Lib.splitB sep 0 k s, x.size ≤ s.size
  | 0, s, x, hx => by
    simp only [Lib.splitB, List.mem_cons, List.mem_nil_iff, or_false] at hx
    subst hx; exact Nat.le_refl _
  | k + 1, s, x, hx => by
    unfold Lib.splitB at hx
    split at hx
    · simp only [List.mem_cons, List.mem_nil_iff, or_false] at hx
      subst hx; exact Nat.le_refl _
    · rcases List.mem_cons.1 hx with rfl | hx
      · rw [ByteArray.size_extract]; omega
      · have h1 := piece_size sep k _ x hx
        rw [ByteArray.size_extract] at h1
        omega
theorem parts_size (c : UInt8) (s : ByteArray) (i : Nat) : ((parts c s).getD i ⟨#[]⟩).size ≤ s.size := by
  by_cases h : i < (parts c s).length
  · have e : (parts c s).getD i ⟨#[]⟩ = (parts c s)[i] := by simp [List.getD_eq_getElem?_getD, List.getElem?_eq_getElem h]
    rw [e]
    exact piece_size _ _ s _ (List.getElem_mem _)
  · have e : (parts c s).getD i ⟨#[]⟩ = ⟨#[]⟩ := by simp [List.getD_eq_getElem?_getD, List.getElem?_eq_none (by omega : (parts c s).length ≤ i)]
    rw [e]; exact Nat.zero_le _
theorem parts_many (c : UInt8) (s : ByteArray) : (parts c s).length ≤ s.size + 1 := by
  rw [parts_length]
  have := Lib.countB_le ⟨#[c]⟩ (by show 1 ≤ 1; omega) s.size s (Nat.le_refl _)
  omega

set_option maxRecDepth 100000 in
set_option maxHeartbeats 4000000 in
theorem Parse_long (s : ByteArray) (w : World) (hl : 1080 < s.size) :
    Calls Tryd.prog 36 #[.string s] w (AutoErr w 5) := by
  have hl' : (1080 : Int) < s.size := by omega
  have f0 := heap_alloc_new w (.cells #[.slice none 0 0] 24)
  have d1 := cell_of_one f0
  have d2 := free_of_one f0
  have hB := bal (Below.refl _ w) (.cells #[.slice none 0 0] 24)
  have HB := hid hB
  go_enter Tryd.func36, Tryd.ntmps36
  go_wp2
  (try simp only [Exit.inBlock, Exit.then])
  refine bodyPost_ret (v := .tuple #[.agg #[.slice none 0 0], .int .i64 5]) ?_ rfl ⟨rfl, HB.out⟩
  rw [results_cell_tmp rfl]
  go_simp

set_option maxRecDepth 100000 in
set_option maxHeartbeats 4000000 in
theorem Parse_none (s : ByteArray) (w : World) (hsh : w.ShapedOpen Tryd.prog) (hE : Errs w) (hno : ∀ m, validM m = true → strB (textM m) ≠ s) :
    Calls Tryd.prog 36 #[.string s] w (AutoErr w 5) := by
  by_cases hlong : 1080 < s.size
  · exact Parse_long s w hlong
  obtain ⟨i0, hi, hz0, hz1, hz2⟩ := info_parts infoRow
  obtain ⟨j0, hj, hy0, hy1, hy2⟩ := info_parts infoInt
  have hsz : s.size ≤ 1080 := by omega
  have hpm := parts_many 32 s
  have Hps := hid (parts_size 32 s)
  have Hno := hid hno
  have hszi : ¬ ((s.size : Int) > 1080) := by omega
  clear hno hlong
  go_enter Tryd.func36, Tryd.ntmps36
  go_wp2_with fail
  have hS := Tryd.strings_Split_shaped s ⟨#[32]⟩ _ (shaped_below hsh (bal (bal (Below.refl _ w) (.cells #[.slice none 0 0] 24)) (.cells #[.slice none 0 0] 24))) (by omega) (by show 1 ≤ 1; omega)
  rw [← parts_length] at hS
  refine hS.mono ?_
  clear hS
  rintro e w1 ⟨rfl, hw1⟩
  obtain ⟨f0, f1, f2⟩ := three_alloc w (.cells #[.slice none 0 0] 24) (.cells #[.slice none 0 0] 24) (.cells ((parts 32 s).map Value.string).toArray 9)
  have hB1 := bal (bal (bal (Below.refl _ w) (.cells #[.slice none 0 0] 24)) (.cells #[.slice none 0 0] 24)) (.cells ((parts 32 s).map Value.string).toArray 9)
  have hsz1 : ((((w.alloc (.cells #[.slice none 0 0] 24)).alloc (.cells #[.slice none 0 0] 24)).alloc (.cells ((parts 32 s).map Value.string).toArray 9))).heap.size = w.heap.size + 3 := by simp
  generalize hW : (((w.alloc (.cells #[.slice none 0 0] 24)).alloc (.cells #[.slice none 0 0] 24)).alloc (.cells ((parts 32 s).map Value.string).toArray 9)) = W at f0 f1 f2 hB1 hsz1
  obtain rfl : w1 = W := hw1.trans hW
  clear hw1 hW
  generalize hPs : parts 32 s = ps at *
  clear hPs
  go_wp2
  go_loopw [19] (fun i wr => ∃ (k : Nat) (m : List (List Int)), k ≤ ps.length ∧ m.length = k ∧ i = .int .i64 k ∧ Below w.heap.size w wr ∧ wr.heap[w.heap.size]? = some (.cells #[.slice none 0 0] 24 (0, 0)) ∧ wr.heap[w.heap.size + 2]? = some (.cells (ps.map Value.string).toArray 9 (0, 0)) ∧ ∃ v, wr.heap[w.heap.size + 1]? = some (.cells #[v] 24 (0, 0)) ∧ MRows wr (w.heap.size + 3) v m) (fun i _ => ps.length - (intOf i).toNat)
  case atStart => exact ⟨0, [], Nat.zero_le _, rfl, rfl, hB1, f0, f2, _, f1, MRows.nil _ _⟩
  case round =>
    obtain ⟨k, m, hk, hml, rfl, hB, g0, g2, v, g1, hM⟩ := hrel
    have Hml := hid hml
    clear hml
    by_cases hlt : k < ps.length
    · have q1 := Hps.out k
      have c1 := cells_get g2 k hlt
      have hbw : w.heap.size + 2 < wr.heap.size := lt_of_block g2
      have hks : (k : Int) < ps.length := by omega
      generalize ps.getD k ⟨#[]⟩ = line at *
      have hS := Tryd.strings_Split_shaped line ⟨#[46]⟩ wr (shaped_below hsh hB) (by omega) (by show 1 ≤ 1; omega)
      rw [← parts_length] at hS
      obtain ⟨wo, rfl⟩ : ∃ wo : World, wo = wr := ⟨_, rfl⟩
      go_wp2_with fail
      refine hS.mono ?_
      clear hS
      rintro e w2 ⟨rfl, hw2⟩
      have e0 : (wo.alloc (.cells ((parts 46 line).map Value.string).toArray 9)).heap[wo.heap.size]? = some (.cells ((parts 46 line).map Value.string).toArray 9 (0, 0)) := heap_alloc_new _ _
      have hB2 := bal (Below.refl _ wo) (.cells ((parts 46 line).map Value.string).toArray 9)
      have hs2 : (wo.alloc (.cells ((parts 46 line).map Value.string).toArray 9)).heap.size = wo.heap.size + 1 := by simp
      generalize hW : wo.alloc (.cells ((parts 46 line).map Value.string).toArray 9) = W at e0 hB2 hs2
      obtain rfl : w2 = W := hw2.trans hW
      clear hw2 hW
      have hqm := parts_many 46 line
      have Hqs := hid (parts_size 46 line)
      generalize hQs : parts 46 line = qs at *
      clear hQs
      go_wp2
      go_loopw [7, 26] (fun u i wi => ∃ (j : Nat) (row : List Int), j ≤ qs.length ∧ row.length = j ∧ i = .int .i64 j ∧ Below (wo.heap.size + 1) w2 wi ∧ wi.ownsRow (wo.heap.size + 1) 3 1 u j (row.map fun x => .int .i64 x)) (fun _ i _ => qs.length - (intOf i).toNat)
      case atStart => exact ⟨0, [], Nat.zero_le _, rfl, rfl, Below.refl _ _, ⟨rfl, .inl ⟨rfl, rfl⟩⟩⟩
      case round =>
        obtain ⟨j, row, hjl, hrl, rfl, hB3, ho⟩ := hrel
        have Hrl := hid hrl
        clear hrl
        have hbw3 : wo.heap.size + 1 ≤ wr.heap.size := by have := hB3.size; omega
        have hBwr := hB.trans ((hB2.trans (hB3.mono (by omega))).mono (by omega))
        have g3 : wr.heap[wo.heap.size]? = some (.cells (qs.map Value.string).toArray 9 (0, 0)) := (hB3.block _ (by omega)).trans e0
        have k0 : wr.heap[w.heap.size]? = some (.cells #[.slice none 0 0] 24 (0, 0)) := (hB3.block _ (by omega)).trans ((hB2.block _ (by omega)).trans g0)
        by_cases hjlt : j < qs.length
        · have r1 := Hqs.out j
          have c2 := cells_get g3 j hjlt
          have hjs : (j : Int) < qs.length := by omega
          generalize qs.getD j ⟨#[]⟩ = f at *
          go_wp2_with fail
          refine (Atoi_any f _ (by omega) (hE.below hBwr)).mono ?_
          rintro e w4 ⟨hB4, ⟨q, rfl⟩ | ⟨q, et, ep, rfl⟩⟩
          · have ho4 := owns_kept ho (fun k _ hk => hB4.block k hk)
            have hs4 := hB4.size
            go_wp2_with (at_builtin; refine wpList_append_own_at _ rfl _ _ 25 rfl (wo.heap.size + 1) 3 j0 (.int .i64 0) 1 8 Tryd.underlying25 hj hy0 hy1 hy2 rfl (by decide) _ _ _ rfl (ho4.alloc _) ⟨w4.heap.size, 0, none⟩ 1 1 [.int .i64 q] rfl rfl (cell_one_new _ _ _) (by simp [Value.oneCell']) (by unfold maxLen; omega) (by omega) (by simp; omega) ?_; intro v' w5 hown' hgrow' _ hat)
            go_roundw
            case rel =>
              refine ⟨j + 1, row ++ [q], by omega, by rw [List.length_append, Hrl.out]; rfl, by go_num, ?_, by rw [List.map_append]; exact hown'⟩
              refine ((hB3.trans (hB4.mono hbw3)).alloc (by omega) _).grown hgrow' (by simp; omega) (fun k hk => ?_)
              rcases ho4.2 with ⟨hu, _⟩ | ⟨g, cap, cur, hu, hg, _⟩
              · rw [hu] at hk; cases hk
              · rw [hu] at hk; cases hk; exact hg
            case measure => simp [intOf]; omega
          · have k4 := (hB4.block _ (lt_of_block k0)).trans k0
            have d1 := cell_of_one k4
            have d2 := free_of_one k4
            have d3 := store_res k4 (.slice none 0 0)
            have HB := hid (Below.setCell (btr hBwr hB4) (p := ⟨w.heap.size, 0, none⟩) (Nat.le_refl _) (.slice none 0 0))
            clear k0 k4 g0 g1 g2 g3 f0 f1 f2 e0
            go_wp2
            (try simp only [Exit.inBlock, Exit.then])
            refine bodyPost_ret (v := .tuple #[.agg #[.slice none 0 0], .int .i64 5]) ?_ rfl ⟨rfl, HB.out⟩
            rw [results_cell_tmp rfl]
            go_simp
        · obtain rfl : j = qs.length := by omega
          have hvo : ∃ A c, v = .slice A k c ∧ ∀ g', (Value.slice A k c).ownBlock = some g' → w.heap.size + 3 ≤ g' ∧ g' < wo.heap.size := by
            obtain ⟨xs, hxo, _⟩ := hM
            rw [Hml.out] at hxo
            rcases hxo.2 with ⟨hu, h0⟩ | ⟨g, cap, cur, hu, hg, hh, _⟩
            · exact ⟨none, 0, by rw [hu, h0], fun g' h => by cases h⟩
            · exact ⟨_, cap, hu, fun g' h => by cases h; exact ⟨hg, lt_of_block hh⟩⟩
          obtain ⟨vA, vc, rfl, hvo⟩ := hvo
          obtain ⟨rA, rc, rfl, hrA⟩ : ∃ A c, u7 = .slice A qs.length c ∧ ∀ g', (Value.slice A qs.length c).ownBlock = some g' → wo.heap.size + 1 ≤ g' := by
            rcases ho.2 with ⟨hu, h0⟩ | ⟨g, cap, cur, hu, hg, _⟩
            · exact ⟨none, 0, by rw [hu, h0], fun g' h => by cases h⟩
            · exact ⟨_, cap, hu, fun g' h => by cases h; exact hg⟩
          have hMr := hM.kept (W' := wr) (fun k _ hk => (hB3.block k (by omega)).trans (hB2.block k hk))
          obtain ⟨xs, hxo, hxx⟩ := hMr
          rw [Hml.out] at hxo
          have hvne : ∀ b, b < w.heap.size + 3 → some b ≠ (Value.slice vA k vc).ownBlock := fun b hb e => by have := (hvo b e.symm).1; omega
          have hbb : wr.heap[w.heap.size + 1]? = some (.cells #[.slice vA k vc] 24 (0, 0)) := (hB3.block _ (by omega)).trans ((hB2.block _ (by omega)).trans g1)
          have hb2 : wr.heap[w.heap.size + 2]? = some (.cells (ps.map Value.string).toArray 9 (0, 0)) := (hB3.block _ (by omega)).trans ((hB2.block _ (by omega)).trans g2)
          have hvc : wr.cell? ⟨w.heap.size + 1, 0, none⟩ = some (.slice vA k vc) := by simp [World.cell?, hbb]
          have hbl : w.heap.size + 1 < wr.heap.size := by omega
          have hoff : IntsOff wr (w.heap.size + 3) (Value.slice vA k vc).ownBlock (.slice rA qs.length rc) row := by
            rcases ho.2 with ⟨hu, h0⟩ | ⟨g, cap, cur, hu, hg, hh, _⟩
            · rw [hu]
              have hr0 : row.length = 0 := by rw [Hrl.out, h0]
              exact ⟨none, 0, by rw [hr0], by rw [hr0]; exact Nat.zero_le _, fun j hj => by omega⟩
            · rw [hu] at ho ⊢
              exact off_of_own ho Hrl.out (by omega) (fun e => by have := (hvo g e.symm).2; omega) (by unfold big; omega)
          have Hbb := hid hbb
          have Hb0 := hid k0
          have Hb2 := hid hb2
          clear hbb k0 hb2
          go_wp2_with (at_builtin; refine wpList_append_own_at _ rfl _ _ 22 rfl (w.heap.size + 3) 25 i0 (.slice none 0 0) 1 24 Tryd.underlying22 hi hz0 hz1 hz2 rfl (by decide) _ _ _ rfl (hxo.alloc _) ⟨wr.heap.size, 0, none⟩ 1 1 [.slice rA qs.length rc] rfl rfl (cell_one_new _ _ _) (by simp [Value.oneCell']) (by unfold maxLen; omega) (by omega) (by simp; omega) ?_; intro v' w5 hown' hgrow' _ hat; obtain ⟨g', cap', rfl⟩ := ownsRow_succ hown'; have hc1 : w5.heap[w.heap.size + 1]? = _ := (hgrow'.block (w.heap.size + 1) (by simp; omega) (hvne _ (by omega))).trans ((Below.heap_alloc _ _ _ (by omega)).trans Hbb.out); have hc2 := cell_of_one hc1; have hc3 := free_of_one hc1; clear hc1)
          go_roundw
          case rel =>
            have hcut : ∀ b, b < w.heap.size + 3 → w5.heap[b]? = wr.heap[b]? := fun b hb => (hgrow'.block b (by simp; omega) (hvne _ hb)).trans (Below.heap_alloc _ _ _ (by omega))
            refine ⟨k + 1, m ++ [row], by omega, by rw [List.length_append, Hml.out]; rfl, by go_num, ?_, ?_, ?_, .slice (some ⟨g', 0, none⟩) (k + 1) cap', ?_, ?_⟩
            · refine Below.setCell ((hBwr.alloc (by omega) _).grown hgrow' (by simp; omega) (fun q hq => by have := (hvo q hq).1; omega)) (Nat.le_succ _) _
            · rw [Below.heap_setCell _ _ _ _ (by simp), hcut _ (by omega)]; exact Hb0.out
            · rw [Below.heap_setCell _ _ _ _ (by simp), hcut _ (by omega)]; exact Hb2.out
            · have := heap_setCell_same w5 (w.heap.size + 1) 0 _ _ (.slice (some ⟨g', 0, none⟩) (k + 1) cap') ((hcut _ (by omega)).trans Hbb.out)
              simpa using this
            · have hap := MRows.appended (W := wr.alloc (.cells #[.slice rA qs.length rc] 25)) (base := w.heap.size + 3) (v := .slice vA k vc) (m := m) (l := row) (xs := xs) (u := .slice rA qs.length rc)
                (fun i hi => (hxx i hi).kept (fun q _ hq _ => Below.heap_alloc _ _ _ hq) (fun _ _ h => h)) (by have := hxo.1; have := Hml.out; omega)
                (hoff.kept (fun q _ hq _ => Below.heap_alloc _ _ _ hq) (fun _ _ h => h)) (by rw [Hml.out]; exact hown') hgrow' hat
              exact hap.kept fun q hq _ => Below.heap_setCell _ _ _ _ (by simp; omega)
          case measure => simp [intOf]; omega
    · have hks : ¬ (k : Int) < ps.length := by omega
      have hR := hM.rows (by rw [Hml.out]; unfold big; omega)
      obtain ⟨vA, vc, rfl⟩ : ∃ A c, v = .slice A m.length c := by obtain ⟨A, c, rfl, _⟩ := hR; exact ⟨A, c, rfl⟩
      have hbl : w.heap.size + 1 < wr.heap.size := lt_of_block g1
      have c1 := cell_of_one g1
      have hbl0 : w.heap.size < wr.heap.size := lt_of_block g0
      have G0 := hid g0
      clear hsz g0 g1 g2 hM f0 f1 f2
      cases hv : validM m with
      | false =>
        go_wp2_with fail
        refine (Valid_bool _ m false _ hR hv).mono ?_
        rintro e w4 ⟨rfl, hb4⟩
        have k4 := (hb4.block _ hbl0).trans G0.out
        have d1 := cell_of_one k4
        have d2 := free_of_one k4
        have d3 := store_res k4 (.slice none 0 0)
        have HB := hid (Below.setCell (btr hB hb4) (p := ⟨w.heap.size, 0, none⟩) (Nat.le_refl _) (.slice none 0 0))
        clear k4
        go_wp2
        (try simp only [Exit.inBlock, Exit.then])
        refine bodyPost_ret (v := .tuple #[.agg #[.slice none 0 0], .int .i64 5]) ?_ rfl ⟨rfl, HB.out⟩
        rw [results_cell_tmp rfl]
        go_simp
      | true =>
        have hne := Hno.out m hv
        go_wp2_with fail
        refine (Valid_bool _ m true _ hR hv).mono ?_
        rintro e w4 ⟨rfl, hb4⟩
        have c2 := (hb4.cell (p := ⟨w.heap.size + 1, 0, none⟩) hbl).trans c1
        have hs4 := hb4.size
        have htx := text_any _ m w4 (hR.below hb4) hv
        generalize strB (textM m) = tx at *
        have hne' := str_ne hne
        clear hne
        go_wp2_with fail
        refine htx.mono ?_
        clear htx
        rintro e w5 ⟨rfl, hb5⟩
        have k4 := (hb5.block _ (by omega)).trans ((hb4.block _ hbl0).trans G0.out)
        have d1 := cell_of_one k4
        have d2 := free_of_one k4
        have d3 := store_res k4 (.slice none 0 0)
        have HB := hid (Below.setCell (btr (btr hB hb4) hb5) (p := ⟨w.heap.size, 0, none⟩) (Nat.le_refl _) (.slice none 0 0))
        clear k4
        go_wp2
        (try simp only [Exit.inBlock, Exit.then])
        refine bodyPost_ret (v := .tuple #[.agg #[.slice none 0 0], .int .i64 5]) ?_ rfl ⟨rfl, HB.out⟩
        rw [results_cell_tmp rfl]
        go_simp
end Go.Proofs.YtibaihchnbbokaaDoor
