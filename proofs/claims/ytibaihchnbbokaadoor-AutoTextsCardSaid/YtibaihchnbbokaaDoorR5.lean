/-
  The reference: images and preimages.
-/
import Derived.Test.YtibaihchnbbokaaDoorR4
namespace Go.Proofs.YtibaihchnbbokaaDoor
open Go.RowKit Go.Shelf

theorem hasB_bool (v : Value) (l : List Int) (n : Int) (b : Bool) (w : World) (h : Ints w v l) (hb : hasB l n = b) :
    Calls Tryd.prog 41 #[v, .int .i64 n] w fun e w' => e = .returned (.bool b) ∧ w = w' := by
  subst hb; exact rHas_any v l n w h

theorem appended_below {B : Nat} {X w2 w5 : World} {r : Value} {k : Nat} {xs : List Value} {e : TypeId} {s : Nat} {o : Obj} (hB : Below B X w2) (ho : w2.ownsRow B e s r k xs) (hb : B ≤ w2.heap.size) (hg : (w2.alloc o).grownBy w5 r.ownBlock) : Below B X w5 := by
  refine (hB.alloc hb o).grown hg (by simp; omega) (fun q hq => ?_)
  rcases ho.2 with ⟨hr, _⟩ | ⟨g, c, cur, hr, hg, _⟩
  · rw [hr] at hq; cases hq
  · rw [hr] at hq; cases hq; exact hg

set_option maxRecDepth 100000 in
set_option maxHeartbeats 2000000 in
theorem rPreimage_any (v s u : Value) (m : List (List Int)) (sl l : List Int) (w : World) (h : Rows w v m) (hs : Ints w s sl) (hu : Ints w u l) (hv : validM m = true) (h1 : isSetM m sl = true) (hw : isWordM m l = true) :
    Calls Tryd.prog 26 #[.agg #[v], s, u] w fun e w' => ∃ r, e = .returned r ∧ Ints w' r (preimageM m sl l) ∧ Below w.heap.size w w' := by
  obtain ⟨j0, hj, hy0, hy1, hy2⟩ := info_parts infoInt
  have hn : m.length ≤ 60 := (valid_parts hv).2.1
  have hb0 := bal (Below.refl _ w) (.cells #[v] 24)
  obtain ⟨A, cap, rfl, _⟩ := id h
  obtain ⟨Au, capu, rfl, _⟩ := id hu
  obtain ⟨As, caps, rfl, _⟩ := id hs
  have hbx : (w.alloc (.cells #[.slice A m.length cap] 24)).cell? ⟨w.heap.size, 0, none⟩ = some (.slice A m.length cap) := by simp
  have Hpick := hid (preimage_pick hv h1 hw)
  go_enter Tryd.func26, Tryd.ntmps26
  go_wp2_with fail
  refine (rEnds_any _ _ m l _ (h.alloc _) (hu.alloc _) hv hw).mono ?_
  rintro e X ⟨r, rfl, hends, hbX⟩
  have hX := btr hb0 hbX
  have hbX' := (hbX.cell (p := ⟨w.heap.size, 0, none⟩) (by simp)).trans hbx
  have hlt : w.heap.size < X.heap.size := World.block_lt_of_cell? _ _ hbX'
  have hsX := hs.below hX
  obtain ⟨Ae, ce, rfl, _, hce⟩ := id hends
  have Hce := hid hce
  clear hce hb0 hbX hbx
  rw [endsTo_length] at *
  go_wp2
  go_loopw [8, 9] (fun r i wr => ∃ k : Nat, k ≤ m.length ∧ i = .int .i64 k ∧ Below X.heap.size X wr ∧ wr.ownsRow X.heap.size 3 1 r (pick (fun t => hasB sl ((runM m t l : Nat) : Int)) k).length ((pick (fun t => hasB sl ((runM m t l : Nat) : Int)) k).map fun x => .int .i64 x)) (fun _ i _ => m.length - (intOf i).toNat)
  case atStart => exact ⟨0, Nat.zero_le _, rfl, Below.refl _ _, ⟨rfl, .inl ⟨rfl, rfl⟩⟩⟩
  case round =>
    obtain ⟨k, hk, rfl, hB, ho⟩ := hrel
    have hbr := (hB.cell (p := ⟨w.heap.size, 0, none⟩) hlt).trans hbX'
    have hsz := hB.size
    by_cases hlt' : k < m.length
    · obtain ⟨be, oe, hAe, hcell⟩ := Hce.out k hlt'
      subst hAe
      rw [endsTo_get _ _ _ _ hlt'] at hcell
      have hcr := (hB.cell (p := ⟨be, oe + k, none⟩) (World.block_lt_of_cell? _ _ hcell)).trans hcell
      have hkm : (k : Int) < m.length := by omega
      have Hs := hid (pick_succ (fun t => hasB sl ((runM m t l : Nat) : Int)) k)
      have hpl := pick_length (fun t => hasB sl ((runM m t l : Nat) : Int)) k
      have Hlen : Hid ((pick (fun t => hasB sl ((runM m t l : Nat) : Int)) (k + 1)).length = (pick (fun t => hasB sl ((runM m t l : Nat) : Int)) k).length + (if hasB sl ((runM m k l : Nat) : Int) then 1 else 0)) := by
        have := congrArg List.length Hs.out
        unfold Hid
        simp only [List.length_map, List.length_append] at this
        rw [this]
        split <;> simp
      generalize pick (fun t => hasB sl ((runM m t l : Nat) : Int)) k = pk at *
      generalize runM m k l = y at *
      clear hcell
      by_cases hb : hasB sl (y : Int) = true
      · go_wp2_with fail
        refine (hasB_bool _ sl y true _ (hsX.below hB) hb).mono ?_
        rintro e w2 ⟨rfl, rfl⟩
        go_wp2_with (at_builtin; refine wpList_append_own_at _ rfl _ _ 25 rfl X.heap.size 3 j0 (.int .i64 0) 1 8 Tryd.underlying25 hj hy0 hy1 hy2 rfl (by decide) _ _ _ rfl (ho.alloc _) ⟨wr.heap.size, 0, none⟩ 1 1 [.int .i64 (k : Int)] rfl rfl (cell_one_new _ _ _) (by simp [Value.oneCell']) (by unfold maxLen; omega) (by omega) (by simp; omega) ?_; intro v' w5 hown' hgrow' _ hat)
        go_roundw
        case rel =>
          refine ⟨k + 1, by omega, by go_num, appended_below hB ho hsz hgrow', ?_⟩
          rw [Hs.out, Hlen.out, if_pos hb, if_pos hb]
          exact hown'
        case measure => simp [intOf]; omega
      · have hb' : hasB sl (y : Int) = false := by simpa using hb
        go_wp2_with fail
        refine (hasB_bool _ sl y false _ (hsX.below hB) hb').mono ?_
        rintro e w2 ⟨rfl, rfl⟩
        go_wp2
        go_roundw
        case rel =>
          refine ⟨k + 1, by omega, by go_num, hB, ?_⟩
          rw [Hs.out, Hlen.out, if_neg hb, if_neg hb, List.append_nil, Nat.add_zero]
          exact ho
        case measure => simp [intOf]; omega
    · obtain rfl : k = m.length := by omega
      have hpl := pick_length (fun t => hasB sl ((runM m t l : Nat) : Int)) m.length
      rw [Hpick.out] at ho hpl
      go_wp2
      go_ret
      exact ⟨_, rfl, Ints.of_own (n₀ := X.heap.size) (e := 3) ho (by unfold big; omega), btr hX hB⟩

theorem there_succ (m : List (List Int)) (s u : List Int) (k : Nat) (hk : k < s.length) : (thereM m (s.take (k + 1)) u).map (fun x => Value.int .i64 x) = (thereM m (s.take k) u).map (fun x => Value.int .i64 x) ++ [.int .i64 (runM m (s.getD k 0).toNat u : Nat)] := by
  rw [List.take_succ_eq_append_getElem hk, getD_elem s k hk, thereM, List.map_append, List.map_append]
  rfl
theorem there_length (m : List (List Int)) (s u : List Int) : (thereM m s u).length = s.length := by simp [thereM]

set_option maxRecDepth 100000 in
set_option maxHeartbeats 2000000 in
theorem rImage_any (v s u : Value) (m : List (List Int)) (sl l : List Int) (w : World) (h : Rows w v m) (hs : Ints w s sl) (hu : Ints w u l) (hv : validM m = true) (h1 : isSetM m sl = true) (hw : isWordM m l = true) :
    Calls Tryd.prog 25 #[.agg #[v], s, u] w fun e w' => ∃ r, e = .returned r ∧ Ints w' r (imageM m sl l) ∧ Below w.heap.size w w' := by
  obtain ⟨j0, hj, hy0, hy1, hy2⟩ := info_parts infoInt
  have hn : m.length ≤ 60 := (valid_parts hv).2.1
  have hsl := isSetM_len h1
  have hb0 := bal (Below.refl _ w) (.cells #[v] 24)
  obtain ⟨A, cap, rfl, _⟩ := id h
  obtain ⟨Au, capu, rfl, _⟩ := id hu
  obtain ⟨As, caps, rfl, _⟩ := id hs
  have hbx : (w.alloc (.cells #[.slice A m.length cap] 24)).cell? ⟨w.heap.size, 0, none⟩ = some (.slice A m.length cap) := by simp
  have Hpick := hid (image_pick hv h1 hw)
  go_enter Tryd.func25, Tryd.ntmps25
  go_wp2_with fail
  refine (rEnds_any _ _ m l _ (h.alloc _) (hu.alloc _) hv hw).mono ?_
  rintro e X ⟨r, rfl, hends, hbX⟩
  have hX := btr hb0 hbX
  have hbX' := (hbX.cell (p := ⟨w.heap.size, 0, none⟩) (by simp)).trans hbx
  have hlt : w.heap.size < X.heap.size := World.block_lt_of_cell? _ _ hbX'
  have hsX := hs.below hX
  obtain ⟨As', caps', hAs, _, hcs⟩ := id hsX
  simp only [Value.slice.injEq] at hAs
  obtain ⟨rfl, -, rfl⟩ := hAs
  have Hcs := hid hcs
  obtain ⟨Ae, ce, rfl, _, hce⟩ := id hends
  have Hce := hid hce
  clear hce hcs hb0 hbX hbx
  rw [endsTo_length] at *
  go_wp2
  go_loopw [8, 10] (fun r i wr => ∃ k : Nat, k ≤ sl.length ∧ i = .int .i64 k ∧ Below X.heap.size X wr ∧ wr.ownsRow X.heap.size 3 1 r k ((thereM m (sl.take k) l).map fun x => .int .i64 x)) (fun _ i _ => sl.length - (intOf i).toNat)
  case atStart => exact ⟨0, Nat.zero_le _, rfl, Below.refl _ _, ⟨rfl, .inl ⟨rfl, rfl⟩⟩⟩
  case round =>
    obtain ⟨k, hk, rfl, hB, ho⟩ := hrel
    have hbr := (hB.cell (p := ⟨w.heap.size, 0, none⟩) hlt).trans hbX'
    have hsz := hB.size
    by_cases hlt' : k < sl.length
    · obtain ⟨bs, os, hAs, hcells⟩ := Hcs.out k hlt'
      subst hAs
      have hcr := (hB.cell (p := ⟨bs, os + k, none⟩) (World.block_lt_of_cell? _ _ hcells)).trans hcells
      have hmem := isSetM_mem h1 _ (show sl.getD k 0 ∈ sl by rw [getD_elem sl k hlt']; exact List.getElem_mem _)
      have Hs := hid (there_succ m sl l k hlt')
      clear hcells
      generalize hq : sl.getD k 0 = q at *
      obtain ⟨qn, rfl⟩ := Int.eq_ofNat_of_zero_le hmem.1
      rw [Int.toNat_natCast] at Hs
      obtain ⟨be, oe, hAe, hcell⟩ := Hce.out qn (by omega)
      subst hAe
      rw [endsTo_get _ _ _ _ (by omega)] at hcell
      have hcr2 := (hB.cell (p := ⟨be, oe + qn, none⟩) (World.block_lt_of_cell? _ _ hcell)).trans hcell
      have hqm : (qn : Int) < m.length := by omega
      have hks : (k : Int) < sl.length := by omega
      clear hcell hq
      generalize runM m qn l = y at *
      go_wp2_with (at_builtin; refine wpList_append_own_at _ rfl _ _ 25 rfl X.heap.size 3 j0 (.int .i64 0) 1 8 Tryd.underlying25 hj hy0 hy1 hy2 rfl (by decide) _ _ _ rfl (ho.alloc _) ⟨wr.heap.size, 0, none⟩ 1 1 [.int .i64 (y : Int)] rfl rfl (cell_one_new _ _ _) (by simp [Value.oneCell']) (by unfold maxLen; omega) (by omega) (by simp; omega) ?_; intro v' w5 hown' hgrow' _ hat)
      go_roundw
      case rel =>
        refine ⟨k + 1, by omega, by go_num, appended_below hB ho hsz hgrow', ?_⟩
        rw [Hs.out]
        exact hown'
      case measure => simp [intOf]; omega
    · obtain rfl : k = sl.length := by omega
      rw [List.take_of_length_le (Nat.le_refl _)] at ho
      have hth : Ints wr u8 (thereM m sl l) := Ints.of_own (n₀ := X.heap.size) (e := 3) (by rw [there_length]; exact ho) (by rw [there_length]; unfold big; omega)
      obtain ⟨Y, rfl⟩ : ∃ Y : World, Y = wr := ⟨_, rfl⟩
      obtain ⟨A8, c8, rfl, _⟩ := id hth
      clear ho
      go_wp2
      go_loopw [9, 11] (fun r i wr => ∃ k : Nat, k ≤ m.length ∧ i = .int .i64 k ∧ Below Y.heap.size Y wr ∧ wr.ownsRow Y.heap.size 3 1 r (pick (fun t => hasB (thereM m sl l) t) k).length ((pick (fun t => hasB (thereM m sl l) t) k).map fun x => .int .i64 x)) (fun _ i _ => m.length - (intOf i).toNat)
      case atStart => exact ⟨0, Nat.zero_le _, rfl, Below.refl _ _, ⟨rfl, .inl ⟨rfl, rfl⟩⟩⟩
      case round =>
        obtain ⟨k, hk, rfl, hB2, ho⟩ := hrel
        have hbr2 := (hB2.cell (p := ⟨w.heap.size, 0, none⟩) (by show w.heap.size < _; omega)).trans hbr
        have hsz2 := hB2.size
        by_cases hlt' : k < m.length
        · have Hs := hid (pick_succ (fun t => hasB (thereM m sl l) t) k)
          have hpl := pick_length (fun t => hasB (thereM m sl l) t) k
          have Hlen : Hid ((pick (fun t => hasB (thereM m sl l) t) (k + 1)).length = (pick (fun t => hasB (thereM m sl l) t) k).length + (if hasB (thereM m sl l) k then 1 else 0)) := by
            have := congrArg List.length Hs.out
            unfold Hid
            simp only [List.length_map, List.length_append] at this
            rw [this]
            split <;> simp
          generalize pick (fun t => hasB (thereM m sl l) t) k = pk at *
          have hkm : (k : Int) < m.length := by omega
          by_cases hb : hasB (thereM m sl l) k = true
          · go_wp2_with fail
            refine (hasB_bool _ (thereM m sl l) k true _ (hth.below hB2) hb).mono ?_
            rintro e w2 ⟨rfl, rfl⟩
            go_wp2_with (at_builtin; refine wpList_append_own_at _ rfl _ _ 25 rfl Y.heap.size 3 j0 (.int .i64 0) 1 8 Tryd.underlying25 hj hy0 hy1 hy2 rfl (by decide) _ _ _ rfl (ho.alloc _) ⟨wr.heap.size, 0, none⟩ 1 1 [.int .i64 (k : Int)] rfl rfl (cell_one_new _ _ _) (by simp [Value.oneCell']) (by unfold maxLen; omega) (by omega) (by simp; omega) ?_; intro v' w5 hown' hgrow' _ hat)
            go_roundw
            case rel =>
              refine ⟨k + 1, by omega, by go_num, appended_below hB2 ho hsz2 hgrow', ?_⟩
              rw [Hs.out, Hlen.out, if_pos hb, if_pos hb]
              exact hown'
            case measure => simp [intOf]; omega
          · have hb' : hasB (thereM m sl l) k = false := by simpa using hb
            go_wp2_with fail
            refine (hasB_bool _ (thereM m sl l) k false _ (hth.below hB2) hb').mono ?_
            rintro e w2 ⟨rfl, rfl⟩
            go_wp2
            go_roundw
            case rel =>
              refine ⟨k + 1, by omega, by go_num, hB2, ?_⟩
              rw [Hs.out, Hlen.out, if_neg hb, if_neg hb, List.append_nil, Nat.add_zero]
              exact ho
            case measure => simp [intOf]; omega
        · obtain rfl : k = m.length := by omega
          have hpl := pick_length (fun t => hasB (thereM m sl l) t) m.length
          rw [Hpick.out] at ho hpl
          go_wp2
          go_ret
          exact ⟨_, rfl, Ints.of_own (n₀ := Y.heap.size) (e := 3) ho (by unfold big; omega), btr (btr hX hB) hB2⟩
end Go.Proofs.YtibaihchnbbokaaDoor
