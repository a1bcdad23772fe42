/-
  Unions and complements.
-/
import Derived.Test.YtibaihchnbbokaaDoorR5
import Derived.Deep.CutRange
namespace Go.Proofs.YtibaihchnbbokaaDoor
open Go.RowKit Go.Shelf

set_option maxRecDepth 100000 in
set_option maxHeartbeats 2000000 in
theorem join_any (n : Nat) (v u : Value) (l k2 : List Int) (w : World) (hn : n ≤ 60) (hl : Ints w v l) (hk2 : Ints w u k2) :
    Calls Tryd.prog 39 #[.int .i64 n, v, u] w fun e w' => ∃ r, e = .returned r ∧ Ints w' r (pick (fun t => hasB l t || hasB k2 t) n) ∧ Below w.heap.size w w' := by
  obtain ⟨j0, hj, hy0, hy1, hy2⟩ := info_parts infoInt
  obtain ⟨A, cap, rfl, _⟩ := id hl
  obtain ⟨Au, capu, rfl, _⟩ := id hk2
  go_enter Tryd.func39, Tryd.ntmps39
  go_wp2
  go_loopw [7, 8] (fun r i wr => ∃ k : Nat, k ≤ n ∧ i = .int .i64 k ∧ Below w.heap.size w wr ∧ wr.ownsRow w.heap.size 3 1 r (pick (fun t => hasB l t || hasB k2 t) k).length ((pick (fun t => hasB l t || hasB k2 t) k).map fun x => .int .i64 x)) (fun _ i _ => n - (intOf i).toNat)
  case atStart => exact ⟨0, Nat.zero_le _, rfl, Below.refl _ _, ⟨rfl, .inl ⟨rfl, rfl⟩⟩⟩
  case round =>
    obtain ⟨k, hk, rfl, hB, ho⟩ := hrel
    have hsz := hB.size
    by_cases hlt' : k < n
    · have hkm : (k : Int) < n := by omega
      have Hs := hid (pick_succ (fun t => hasB l t || hasB k2 t) k)
      have hpl := pick_length (fun t => hasB l t || hasB k2 t) k
      have Hlen : Hid ((pick (fun t => hasB l t || hasB k2 t) (k + 1)).length = (pick (fun t => hasB l t || hasB k2 t) k).length + (if hasB l k || hasB k2 k then 1 else 0)) := by
        have := congrArg List.length Hs.out
        unfold Hid
        simp only [List.length_map, List.length_append] at this
        rw [this]
        split <;> simp
      generalize pick (fun t => hasB l t || hasB k2 t) k = pk at *
      by_cases hb : hasB l k = true
      · have hc : (hasB l k || hasB k2 k) = true := by rw [hb]; rfl
        go_wp2_with fail
        refine (hasB_bool _ l k true _ (hl.below hB) hb).mono ?_
        rintro e w2 ⟨rfl, rfl⟩
        go_wp2_with (at_builtin; refine wpList_append_own_at _ rfl _ _ 25 rfl w.heap.size 3 j0 (.int .i64 0) 1 8 Tryd.underlying25 hj hy0 hy1 hy2 rfl (by decide) _ _ _ rfl (ho.alloc _) ⟨wr.heap.size, 0, none⟩ 1 1 [.int .i64 (k : Int)] rfl rfl (cell_one_new _ _ _) (by simp [Value.oneCell']) (by unfold maxLen; omega) (by omega) (by simp; omega) ?_; intro v' w5 hown' hgrow' _ hat)
        go_roundw
        case rel =>
          refine ⟨k + 1, by omega, by go_num, appended_below hB ho hsz hgrow', ?_⟩
          rw [Hs.out, Hlen.out, if_pos hc, if_pos hc]
          exact hown'
        case measure => simp [intOf]; omega
      · have hb' : hasB l k = false := by simpa using hb
        clear hb
        by_cases hd : hasB k2 k = true
        · have hc : (hasB l k || hasB k2 k) = true := by rw [hd, Bool.or_true]
          go_wp2_with fail
          refine (hasB_bool _ l k false _ (hl.below hB) hb').mono ?_
          rintro e w2 ⟨rfl, rfl⟩
          go_wp2_with fail
          refine (hasB_bool _ k2 k true _ (hk2.below hB) hd).mono ?_
          rintro e w2 ⟨rfl, rfl⟩
          go_wp2_with (at_builtin; refine wpList_append_own_at _ rfl _ _ 25 rfl w.heap.size 3 j0 (.int .i64 0) 1 8 Tryd.underlying25 hj hy0 hy1 hy2 rfl (by decide) _ _ _ rfl (ho.alloc _) ⟨wr.heap.size, 0, none⟩ 1 1 [.int .i64 (k : Int)] rfl rfl (cell_one_new _ _ _) (by simp [Value.oneCell']) (by unfold maxLen; omega) (by omega) (by simp; omega) ?_; intro v' w5 hown' hgrow' _ hat)
          go_roundw
          case rel =>
            refine ⟨k + 1, by omega, by go_num, appended_below hB ho hsz hgrow', ?_⟩
            rw [Hs.out, Hlen.out, if_pos hc, if_pos hc]
            exact hown'
          case measure => simp [intOf]; omega
        · have hd' : hasB k2 k = false := by simpa using hd
          have hc : ¬ (hasB l k || hasB k2 k) = true := by rw [hb', hd']; decide
          clear hd
          go_wp2_with fail
          refine (hasB_bool _ l k false _ (hl.below hB) hb').mono ?_
          rintro e w2 ⟨rfl, rfl⟩
          go_wp2_with fail
          refine (hasB_bool _ k2 k false _ (hk2.below hB) hd').mono ?_
          rintro e w2 ⟨rfl, rfl⟩
          go_wp2
          go_roundw
          case rel =>
            refine ⟨k + 1, by omega, by go_num, hB, ?_⟩
            rw [Hs.out, Hlen.out, if_neg hc, if_neg hc, List.append_nil, Nat.add_zero]
            exact ho
          case measure => simp [intOf]; omega
    · obtain rfl : k = n := by omega
      have hpl := pick_length (fun t => hasB l t || hasB k2 t) k
      go_wp2
      go_ret
      exact ⟨_, rfl, Ints.of_own (n₀ := w.heap.size) (e := 3) ho (by unfold big; omega), hB⟩

set_option maxRecDepth 100000 in
set_option maxHeartbeats 2000000 in
theorem rest_any (n : Nat) (v : Value) (l : List Int) (w : World) (hn : n ≤ 60) (hl : Ints w v l) :
    Calls Tryd.prog 40 #[.int .i64 n, v] w fun e w' => ∃ r, e = .returned r ∧ Ints w' r (pick (fun t => !hasB l t) n) ∧ Below w.heap.size w w' := by
  obtain ⟨j0, hj, hy0, hy1, hy2⟩ := info_parts infoInt
  obtain ⟨A, cap, rfl, _⟩ := id hl
  go_enter Tryd.func40, Tryd.ntmps40
  go_wp2
  go_loopw [5, 6] (fun r i wr => ∃ k : Nat, k ≤ n ∧ i = .int .i64 k ∧ Below w.heap.size w wr ∧ wr.ownsRow w.heap.size 3 1 r (pick (fun t => !hasB l t) k).length ((pick (fun t => !hasB l t) k).map fun x => .int .i64 x)) (fun _ i _ => n - (intOf i).toNat)
  case atStart => exact ⟨0, Nat.zero_le _, rfl, Below.refl _ _, ⟨rfl, .inl ⟨rfl, rfl⟩⟩⟩
  case round =>
    obtain ⟨k, hk, rfl, hB, ho⟩ := hrel
    have hsz := hB.size
    by_cases hlt' : k < n
    · have hkm : (k : Int) < n := by omega
      have Hs := hid (pick_succ (fun t => !hasB l t) k)
      have hpl := pick_length (fun t => !hasB l t) k
      have Hlen : Hid ((pick (fun t => !hasB l t) (k + 1)).length = (pick (fun t => !hasB l t) k).length + (if !hasB l k then 1 else 0)) := by
        have := congrArg List.length Hs.out
        unfold Hid
        simp only [List.length_map, List.length_append] at this
        rw [this]
        split <;> simp
      generalize pick (fun t => !hasB l t) k = pk at *
      by_cases hb : hasB l k = true
      · have hc : ¬ (!hasB l k) = true := by rw [hb]; decide
        go_wp2_with fail
        refine (hasB_bool _ l k true _ (hl.below hB) hb).mono ?_
        rintro e w2 ⟨rfl, rfl⟩
        go_wp2
        go_roundw
        case rel =>
          refine ⟨k + 1, by omega, by go_num, hB, ?_⟩
          rw [Hs.out, Hlen.out, if_neg hc, if_neg hc, List.append_nil, Nat.add_zero]
          exact ho
        case measure => simp [intOf]; omega
      · have hb' : hasB l k = false := by simpa using hb
        have hc : (!hasB l k) = true := by rw [hb']; rfl
        clear hb
        go_wp2_with fail
        refine (hasB_bool _ l k false _ (hl.below hB) hb').mono ?_
        rintro e w2 ⟨rfl, rfl⟩
        go_wp2_with (at_builtin; refine wpList_append_own_at _ rfl _ _ 25 rfl w.heap.size 3 j0 (.int .i64 0) 1 8 Tryd.underlying25 hj hy0 hy1 hy2 rfl (by decide) _ _ _ rfl (ho.alloc _) ⟨wr.heap.size, 0, none⟩ 1 1 [.int .i64 (k : Int)] rfl rfl (cell_one_new _ _ _) (by simp [Value.oneCell']) (by unfold maxLen; omega) (by omega) (by simp; omega) ?_; intro v' w5 hown' hgrow' _ hat)
        go_roundw
        case rel =>
          refine ⟨k + 1, by omega, by go_num, appended_below hB ho hsz hgrow', ?_⟩
          rw [Hs.out, Hlen.out, if_pos hc, if_pos hc]
          exact hown'
        case measure => simp [intOf]; omega
    · obtain rfl : k = n := by omega
      have hpl := pick_length (fun t => !hasB l t) k
      go_wp2
      go_ret
      exact ⟨_, rfl, Ints.of_own (n₀ := w.heap.size) (e := 3) ho (by unfold big; omega), hB⟩

/-! What the lists say. -/
theorem pick_congr {p q : Nat → Bool} {n : Nat} (h : ∀ t, t < n → p t = q t) : pick p n = pick q n := by
  unfold pick
  congr 1
  exact List.filter_congr fun t ht => h t (List.mem_range.1 ht)
theorem pick_mem {p : Nat → Bool} {n : Nat} {x : Int} : x ∈ pick p n ↔ ∃ t, t < n ∧ p t = true ∧ x = (t : Int) := by
  simp only [pick, List.mem_map, List.mem_filter, List.mem_range]
  constructor
  · rintro ⟨t, ⟨h1, h2⟩, rfl⟩; exact ⟨t, h1, h2, rfl⟩
  · rintro ⟨t, h1, h2, rfl⟩; exact ⟨t, ⟨h1, h2⟩, rfl⟩
theorem pick_set {m : List (List Int)} (p : Nat → Bool) : isSetM m (pick p m.length) = true := by
  refine isSetM_of_sorted (intsOf_sorted (List.Pairwise.filter _ List.pairwise_lt_range)) (fun x hx => ?_)
  obtain ⟨t, h1, _, rfl⟩ := pick_mem.1 hx
  omega
theorem pick_testBit (p : Nat → Bool) (n t : Nat) : (ofList (pick p n)).testBit t = (decide (t < n) && p t) := by
  rw [ofList_testBit, Bool.eq_iff_iff, List.any_eq_true, Bool.and_eq_true, decide_eq_true_eq]
  constructor
  · rintro ⟨x, hx, e⟩
    obtain ⟨q, h1, h2, rfl⟩ := pick_mem.1 hx
    have := of_decide_eq_true e
    rw [Int.toNat_natCast] at this
    subst this
    exact ⟨h1, h2⟩
  · rintro ⟨h1, h2⟩
    exact ⟨t, pick_mem.2 ⟨t, h1, h2, rfl⟩, by simp⟩
theorem hasB_testBit {l : List Int} (h : ∀ x ∈ l, 0 ≤ x) (t : Nat) : hasB l t = (ofList l).testBit t := by
  rw [ofList_testBit, hasB, Bool.eq_iff_iff, List.any_eq_true, List.any_eq_true]
  constructor
  · rintro ⟨x, hx, e⟩
    exact ⟨x, hx, by rw [beq_iff_eq] at e; simp [e]⟩
  · rintro ⟨x, hx, e⟩
    have h1 := of_decide_eq_true e
    have h2 := h x hx
    exact ⟨x, hx, by rw [beq_iff_eq]; omega⟩
theorem set_pos {m : List (List Int)} {l : List Int} (h : isSetM m l = true) : ∀ x ∈ l, 0 ≤ x := fun x hx => (isSetM_mem h x hx).1

theorem hasB_image {m : List (List Int)} (hv : validM m = true) {s u : List Int} (hs : isSetM m s = true) (hu : isWordM m u = true) (t : Nat) : hasB (imageM m s u) t = (imgWord m (ofList s) u).testBit t := by
  have hm : m.length ≤ 64 := by have := (valid_parts hv).2.1; omega
  have hu' := hu
  simp only [isWordM, Bool.and_eq_true] at hu'
  have hA := imgWord_lt hv u _ (ofList_lt m.length hm s (isSetM_mem hs)) hu'.2
  rw [hasB_testBit (set_pos (imageM_set hv hs hu)), imageM, ofList_elems (Nat.lt_of_lt_of_le hA (Nat.pow_le_pow_right (by decide) hm))]
theorem hasB_preimage {m : List (List Int)} (hv : validM m = true) {s u : List Int} (hs : isSetM m s = true) (hu : isWordM m u = true) (t : Nat) (ht : t < m.length) : hasB (preimageM m s u) t = hasB s ((runM m t u : Nat) : Int) := by
  have hm : m.length ≤ 64 := by have := (valid_parts hv).2.1; omega
  have hA := preWord_lt hv (ofList_lt m.length hm s (isSetM_mem hs)) u
  simp only [isWordM, Bool.and_eq_true] at hu
  rw [hasB_testBit (set_pos (preimageM_set hv hs)), preimageM, ofList_elems (Nat.lt_of_lt_of_le hA (Nat.pow_le_pow_right (by decide) hm)), preWord_testBit hv _ u t ht hu.2, hasB_testBit (set_pos hs)]

theorem image_eq {m : List (List Int)} (hv : validM m = true) {s u : List Int} (hs : isSetM m s = true) (hu : isWordM m u = true) : imageM m s u = pick (fun t => (imgWord m (ofList s) u).testBit t) m.length := by
  have hm : m.length ≤ 64 := by have := (valid_parts hv).2.1; omega
  simp only [isWordM, Bool.and_eq_true] at hu
  rw [imageM, elems_range (imgWord_lt hv u _ (ofList_lt m.length hm s (isSetM_mem hs)) hu.2) hm]
  rfl
theorem preimage_eq {m : List (List Int)} (hv : validM m = true) {s u : List Int} (hs : isSetM m s = true) : preimageM m s u = pick (fun t => (preWord m (ofList s) u).testBit t) m.length := by
  have hm : m.length ≤ 64 := by have := (valid_parts hv).2.1; omega
  rw [preimageM, elems_range (preWord_lt hv (ofList_lt m.length hm s (isSetM_mem hs)) u) hm]
  rfl

theorem image_join {m : List (List Int)} (hv : validM m = true) {s o u : List Int} (hs : isSetM m s = true) (ho : isSetM m o = true) (hu : isWordM m u = true) :
    imageM m (pick (fun t => hasB s t || hasB o t) m.length) u = pick (fun t => hasB (imageM m s u) t || hasB (imageM m o u) t) m.length := by
  have hm : m.length ≤ 64 := by have := (valid_parts hv).2.1; omega
  rw [image_eq hv (pick_set _) hu]
  refine pick_congr fun t ht => ?_
  rw [hasB_image hv hs hu, hasB_image hv ho hu]
  have hu' := hu
  simp only [isWordM, Bool.and_eq_true] at hu'
  rw [Bool.eq_iff_iff, Bool.or_eq_true, imgWord_mem hv u _ t (ofList_lt m.length hm _ (isSetM_mem (pick_set _))) hu'.2, imgWord_mem hv u _ t (ofList_lt m.length hm _ (isSetM_mem hs)) hu'.2, imgWord_mem hv u _ t (ofList_lt m.length hm _ (isSetM_mem ho)) hu'.2]
  constructor
  · rintro ⟨q, h1, h2, h3⟩
    rw [pick_testBit, Bool.and_eq_true, Bool.or_eq_true, hasB_testBit (set_pos hs), hasB_testBit (set_pos ho)] at h2
    rcases h2.2 with h | h
    · exact .inl ⟨q, h1, h, h3⟩
    · exact .inr ⟨q, h1, h, h3⟩
  · rintro (⟨q, h1, h2, h3⟩ | ⟨q, h1, h2, h3⟩)
    · exact ⟨q, h1, by rw [pick_testBit, hasB_testBit (set_pos hs), h2]; simp [h1], h3⟩
    · exact ⟨q, h1, by rw [pick_testBit, hasB_testBit (set_pos ho), h2]; simp [h1], h3⟩

theorem preimage_rest {m : List (List Int)} (hv : validM m = true) {s u : List Int} (hs : isSetM m s = true) (hu : isWordM m u = true) :
    preimageM m (pick (fun t => !hasB s t) m.length) u = pick (fun t => !hasB (preimageM m s u) t) m.length := by
  rw [preimage_eq hv (pick_set _)]
  refine pick_congr fun t ht => ?_
  rw [hasB_preimage hv hs hu t ht]
  have hu' := hu
  simp only [isWordM, Bool.and_eq_true] at hu'
  have hlt := runM_lt hv u t ht hu'.2
  rw [preWord_testBit hv _ u t ht hu'.2, pick_testBit]
  simp [hlt]
end Go.Proofs.YtibaihchnbbokaaDoor
