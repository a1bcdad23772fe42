/-
  Renamed and Power, where an argument is not in order.
-/
import Derived.Test.YtibaihchnbbokaaDoorR6
import Derived.Test.YtibaihchnbbokaaDoorP3
namespace Go.Proofs.YtibaihchnbbokaaDoor
open Go.RowKit Go.Shelf

/-- An automaton, and no error. -/
def AutoOk (w : World) (m : List (List Int)) (e : Ending) (w' : World) : Prop := ∃ r, e = .returned (.tuple #[.agg #[r], .int .i64 0]) ∧ Rows w' r m ∧ Below w.heap.size w w'
/-- No automaton, and an error. -/
def AutoErr (w : World) (n : Int) (e : Ending) (w' : World) : Prop := e = .returned (.tuple #[.agg #[.slice none 0 0], .int .i64 n]) ∧ Below w.heap.size w w'

theorem store_res {W : World} {b : Nat} {x : Value} {t : TypeId} (h : W.heap[b]? = some (.cells #[x] t (0, 0))) (u : Value) : (W.setCell ⟨b, 0, none⟩ u).cell? ⟨b, 0, none⟩ = some u := cell_of_one (by simpa using heap_setCell_same W b 0 _ _ u h)

theorem two_alloc (w : World) (a b : Obj) : ((w.alloc a).alloc b).heap[w.heap.size]? = some a ∧ ((w.alloc a).alloc b).heap[w.heap.size + 1]? = some b := by
  have e1 : (w.alloc a).heap.size = w.heap.size + 1 := by simp
  refine ⟨?_, ?_⟩
  · rw [Below.heap_alloc _ _ _ (by omega)]; exact heap_alloc_new _ _
  · rw [← e1]; exact heap_alloc_new _ _

set_option maxRecDepth 100000 in
set_option maxHeartbeats 1000000 in
theorem Renamed_form (v u : Value) (m : List (List Int)) (l : List Int) (w : World) (h : Rows w v m) (hu : Ints w u l) (hv : validM m = false) :
    Calls Tryd.prog 28 #[.agg #[v], u] w (AutoErr w 1) := by
  obtain ⟨A, cap, rfl, _⟩ := id h
  obtain ⟨Au, capu, rfl, hlu, _⟩ := id hu
  unfold big at hlu
  obtain ⟨f0, f1⟩ := two_alloc w (.cells #[.slice A m.length cap] 24) (.cells #[.slice none 0 0] 24)
  have hX := bal (bal (Below.refl _ w) (.cells #[.slice A m.length cap] 24)) (.cells #[.slice none 0 0] 24)
  have Hx := hid hX
  go_enter Tryd.func28, Tryd.ntmps28
  go_wp2_with fail
  generalize hWX : (w.alloc (.cells #[.slice A m.length cap] 24)).alloc (.cells #[.slice none 0 0] 24) = X at *
  clear hX hWX
  have hX := Hx.out
  have hl1 : w.heap.size + 1 < X.heap.size := lt_of_block f1
  have hl0 : w.heap.size < X.heap.size := lt_of_block f0
  have c0 := cell_of_one f0
  have hr := h.below hX
  have hn := hu.below hX
  have B0 := Below.refl X.heap.size X
  clear f0
  refine (Valid_bool _ m false _ (hr.below B0) hv).mono ?_
  rintro e w1 ⟨rfl, h1⟩
  have B1 := btr B0 h1
  have c1 := (B1.cell (p := ⟨w.heap.size, 0, none⟩) hl0).trans c0
  have g5 := (B1.block _ hl1).trans f1
  have d1 := cell_of_one g5
  have d2 := free_of_one g5
  have d3 := store_res g5 (.slice none 0 0)
  have HB := hid (Below.setCell (btr hX B1) (p := ⟨w.heap.size + 1, 0, none⟩) (Nat.le_succ _) (.slice none 0 0))
  clear g5 f1
  go_wp2
  (try simp only [Exit.inBlock, Exit.then])
  refine bodyPost_ret (v := .tuple #[.agg #[.slice none 0 0], .int .i64 1]) ?_ rfl ⟨rfl, HB.out⟩
  rw [results_cell_tmp rfl]
  go_simp

set_option maxRecDepth 100000 in
set_option maxHeartbeats 1000000 in
theorem Power_form (v u : Value) (m : List (List Int)) (l : List (List Int)) (w : World) (h : Rows w v m) (hu : Rows w u l) (hv : validM m = false) :
    Calls Tryd.prog 29 #[.agg #[v], u] w (AutoErr w 1) := by
  obtain ⟨A, cap, rfl, _⟩ := id h
  obtain ⟨Au, capu, rfl, hlu, _⟩ := id hu
  unfold big at hlu
  obtain ⟨f0, f1⟩ := two_alloc w (.cells #[.slice A m.length cap] 24) (.cells #[.slice none 0 0] 24)
  have hX := bal (bal (Below.refl _ w) (.cells #[.slice A m.length cap] 24)) (.cells #[.slice none 0 0] 24)
  have Hx := hid hX
  go_enter Tryd.func29, Tryd.ntmps29
  go_wp2_with fail
  generalize hWX : (w.alloc (.cells #[.slice A m.length cap] 24)).alloc (.cells #[.slice none 0 0] 24) = X at *
  clear hX hWX
  have hX := Hx.out
  have hl1 : w.heap.size + 1 < X.heap.size := lt_of_block f1
  have hl0 : w.heap.size < X.heap.size := lt_of_block f0
  have c0 := cell_of_one f0
  have hr := h.below hX
  have hn := hu.below hX
  have B0 := Below.refl X.heap.size X
  clear f0
  refine (Valid_bool _ m false _ (hr.below B0) hv).mono ?_
  rintro e w1 ⟨rfl, h1⟩
  have B1 := btr B0 h1
  have c1 := (B1.cell (p := ⟨w.heap.size, 0, none⟩) hl0).trans c0
  have g5 := (B1.block _ hl1).trans f1
  have d1 := cell_of_one g5
  have d2 := free_of_one g5
  have d3 := store_res g5 (.slice none 0 0)
  have HB := hid (Below.setCell (btr hX B1) (p := ⟨w.heap.size + 1, 0, none⟩) (Nat.le_succ _) (.slice none 0 0))
  clear g5 f1
  go_wp2
  (try simp only [Exit.inBlock, Exit.then])
  refine bodyPost_ret (v := .tuple #[.agg #[.slice none 0 0], .int .i64 1]) ?_ rfl ⟨rfl, HB.out⟩
  rw [results_cell_tmp rfl]
  go_simp

set_option maxRecDepth 100000 in
set_option maxHeartbeats 1000000 in
theorem Renamed_len (v u : Value) (m : List (List Int)) (l : List Int) (w : World) (h : Rows w v m) (hu : Ints w u l) (hv : validM m = true) (hlen : ¬ l.length = m.length) :
    Calls Tryd.prog 28 #[.agg #[v], u] w (AutoErr w 2) := by
  obtain ⟨A, cap, rfl, _⟩ := id h
  obtain ⟨Au, capu, rfl, hlu, _⟩ := id hu
  unfold big at hlu
  obtain ⟨f0, f1⟩ := two_alloc w (.cells #[.slice A m.length cap] 24) (.cells #[.slice none 0 0] 24)
  have hX := bal (bal (Below.refl _ w) (.cells #[.slice A m.length cap] 24)) (.cells #[.slice none 0 0] 24)
  have Hx := hid hX
  have d0 : ((l.length : Int) != (m.length : Int)) = true := by simp; omega
  have Hl := hid hlen
  clear hlen
  go_enter Tryd.func28, Tryd.ntmps28
  go_wp2_with fail
  generalize hWX : (w.alloc (.cells #[.slice A m.length cap] 24)).alloc (.cells #[.slice none 0 0] 24) = X at *
  clear hX hWX
  have hX := Hx.out
  have hl1 : w.heap.size + 1 < X.heap.size := lt_of_block f1
  have hl0 : w.heap.size < X.heap.size := lt_of_block f0
  have c0 := cell_of_one f0
  have hr := h.below hX
  have hn := hu.below hX
  have B0 := Below.refl X.heap.size X
  clear f0
  refine (Valid_bool _ m true _ (hr.below B0) hv).mono ?_
  rintro e w1 ⟨rfl, h1⟩
  have B1 := btr B0 h1
  have c1 := (B1.cell (p := ⟨w.heap.size, 0, none⟩) hl0).trans c0
  have g5 := (B1.block _ hl1).trans f1
  have d1 := cell_of_one g5
  have d2 := free_of_one g5
  have d3 := store_res g5 (.slice none 0 0)
  have HB := hid (Below.setCell (btr hX B1) (p := ⟨w.heap.size + 1, 0, none⟩) (Nat.le_succ _) (.slice none 0 0))
  clear g5 f1
  go_wp2
  (try simp only [Exit.inBlock, Exit.then])
  refine bodyPost_ret (v := .tuple #[.agg #[.slice none 0 0], .int .i64 2]) ?_ rfl ⟨rfl, HB.out⟩
  rw [results_cell_tmp rfl]
  go_simp

set_option maxRecDepth 100000 in
set_option maxHeartbeats 1000000 in
theorem Renamed_states (v u : Value) (m : List (List Int)) (l : List Int) (w : World) (h : Rows w v m) (hu : Ints w u l) (hv : validM m = true) (hlen : l.length = m.length) (hst : l.all (inB 0 ((m.length : Int) - 1)) = false) :
    Calls Tryd.prog 28 #[.agg #[v], u] w (AutoErr w 2) := by
  obtain ⟨A, cap, rfl, _⟩ := id h
  obtain ⟨Au, capu, rfl, hlu, _⟩ := id hu
  unfold big at hlu
  obtain ⟨f0, f1⟩ := two_alloc w (.cells #[.slice A m.length cap] 24) (.cells #[.slice none 0 0] 24)
  have hX := bal (bal (Below.refl _ w) (.cells #[.slice A m.length cap] 24)) (.cells #[.slice none 0 0] 24)
  have Hx := hid hX
  have d0 : ((l.length : Int) != (m.length : Int)) = false := by simp; omega
  have Hl := hid hlen
  clear hlen
  go_enter Tryd.func28, Tryd.ntmps28
  go_wp2_with fail
  generalize hWX : (w.alloc (.cells #[.slice A m.length cap] 24)).alloc (.cells #[.slice none 0 0] 24) = X at *
  clear hX hWX
  have hX := Hx.out
  have hl1 : w.heap.size + 1 < X.heap.size := lt_of_block f1
  have hl0 : w.heap.size < X.heap.size := lt_of_block f0
  have c0 := cell_of_one f0
  have hr := h.below hX
  have hn := hu.below hX
  have B0 := Below.refl X.heap.size X
  clear f0
  refine (Valid_bool _ m true _ (hr.below B0) hv).mono ?_
  rintro e w1 ⟨rfl, h1⟩
  have B1 := btr B0 h1
  have c1 := (B1.cell (p := ⟨w.heap.size, 0, none⟩) hl0).trans c0
  go_wp2_with fail
  refine (areStates_bool _ _ m l false _ (hr.below B1) (hn.below B1) hst).mono ?_
  rintro e w2 ⟨rfl, h2⟩
  have B2 := btr B1 h2
  have c2 := (B2.cell (p := ⟨w.heap.size, 0, none⟩) hl0).trans c0
  have g5 := (B2.block _ hl1).trans f1
  have d1 := cell_of_one g5
  have d2 := free_of_one g5
  have d3 := store_res g5 (.slice none 0 0)
  have HB := hid (Below.setCell (btr hX B2) (p := ⟨w.heap.size + 1, 0, none⟩) (Nat.le_succ _) (.slice none 0 0))
  clear g5 f1
  go_wp2
  (try simp only [Exit.inBlock, Exit.then])
  refine bodyPost_ret (v := .tuple #[.agg #[.slice none 0 0], .int .i64 2]) ?_ rfl ⟨rfl, HB.out⟩
  rw [results_cell_tmp rfl]
  go_simp

set_option maxRecDepth 100000 in
set_option maxHeartbeats 1000000 in
theorem Renamed_twice (v u : Value) (m : List (List Int)) (l : List Int) (w : World) (h : Rows w v m) (hu : Ints w u l) (hv : validM m = true) (hlen : l.length = m.length) (hst : l.all (inB 0 ((m.length : Int) - 1)) = true) (hof : ¬ ofList l = 2 ^ m.length - 1) :
    Calls Tryd.prog 28 #[.agg #[v], u] w (AutoErr w 2) := by
  obtain ⟨A, cap, rfl, _⟩ := id h
  obtain ⟨Au, capu, rfl, hlu, _⟩ := id hu
  unfold big at hlu
  obtain ⟨f0, f1⟩ := two_alloc w (.cells #[.slice A m.length cap] 24) (.cells #[.slice none 0 0] 24)
  have hX := bal (bal (Below.refl _ w) (.cells #[.slice A m.length cap] 24)) (.cells #[.slice none 0 0] 24)
  have Hx := hid hX
  have d0 : ((l.length : Int) != (m.length : Int)) = false := by simp; omega
  have Hl := hid hlen
  have hm := (valid_parts hv).2.1
  have d9 : (((ofList l : Nat) : Int) != ((2 ^ m.length - 1 : Nat) : Int)) = true := by simp only [bne_iff_ne, ne_eq]; omega
  clear hlen
  go_enter Tryd.func28, Tryd.ntmps28
  go_wp2_with fail
  generalize hWX : (w.alloc (.cells #[.slice A m.length cap] 24)).alloc (.cells #[.slice none 0 0] 24) = X at *
  clear hX hWX
  have hX := Hx.out
  have hl1 : w.heap.size + 1 < X.heap.size := lt_of_block f1
  have hl0 : w.heap.size < X.heap.size := lt_of_block f0
  have c0 := cell_of_one f0
  have hr := h.below hX
  have hn := hu.below hX
  have B0 := Below.refl X.heap.size X
  clear f0
  refine (Valid_bool _ m true _ (hr.below B0) hv).mono ?_
  rintro e w1 ⟨rfl, h1⟩
  have B1 := btr B0 h1
  have c1 := (B1.cell (p := ⟨w.heap.size, 0, none⟩) hl0).trans c0
  go_wp2_with fail
  refine (areStates_bool _ _ m l true _ (hr.below B1) (hn.below B1) hst).mono ?_
  rintro e w2 ⟨rfl, h2⟩
  have B2 := btr B1 h2
  have c2 := (B2.cell (p := ⟨w.heap.size, 0, none⟩) hl0).trans c0
  go_wp2_with fail
  refine (Of_any _ l _ (hn.below B2) (fun x hx => by have := inB_iff.1 (List.all_eq_true.1 hst x hx); omega)).mono ?_
  rintro e w3 ⟨rfl, rfl⟩
  go_wp2_with fail
  refine (Below_any m.length _ hm).mono ?_
  rintro e w3 ⟨rfl, rfl⟩
  have g5 := (B2.block _ hl1).trans f1
  have d1 := cell_of_one g5
  have d2 := free_of_one g5
  have d3 := store_res g5 (.slice none 0 0)
  have HB := hid (Below.setCell (btr hX B2) (p := ⟨w.heap.size + 1, 0, none⟩) (Nat.le_succ _) (.slice none 0 0))
  clear g5 f1
  go_wp2
  (try simp only [Exit.inBlock, Exit.then])
  refine bodyPost_ret (v := .tuple #[.agg #[.slice none 0 0], .int .i64 2]) ?_ rfl ⟨rfl, HB.out⟩
  rw [results_cell_tmp rfl]
  go_simp

set_option maxRecDepth 100000 in
set_option maxHeartbeats 1000000 in
theorem Power_count (v u : Value) (m : List (List Int)) (l : List (List Int)) (w : World) (h : Rows w v m) (hu : Rows w u l) (hv : validM m = true) (hc : inB 1 6 l.length = false) :
    Calls Tryd.prog 29 #[.agg #[v], u] w (AutoErr w 2) := by
  obtain ⟨A, cap, rfl, _⟩ := id h
  obtain ⟨Au, capu, rfl, hlu, _⟩ := id hu
  unfold big at hlu
  obtain ⟨f0, f1⟩ := two_alloc w (.cells #[.slice A m.length cap] 24) (.cells #[.slice none 0 0] 24)
  have hX := bal (bal (Below.refl _ w) (.cells #[.slice A m.length cap] 24)) (.cells #[.slice none 0 0] 24)
  have Hx := hid hX
  go_enter Tryd.func29, Tryd.ntmps29
  go_wp2_with fail
  generalize hWX : (w.alloc (.cells #[.slice A m.length cap] 24)).alloc (.cells #[.slice none 0 0] 24) = X at *
  clear hX hWX
  have hX := Hx.out
  have hl1 : w.heap.size + 1 < X.heap.size := lt_of_block f1
  have hl0 : w.heap.size < X.heap.size := lt_of_block f0
  have c0 := cell_of_one f0
  have hr := h.below hX
  have hn := hu.below hX
  have B0 := Below.refl X.heap.size X
  clear f0
  refine (Valid_bool _ m true _ (hr.below B0) hv).mono ?_
  rintro e w1 ⟨rfl, h1⟩
  have B1 := btr B0 h1
  have c1 := (B1.cell (p := ⟨w.heap.size, 0, none⟩) hl0).trans c0
  go_wp2_with fail
  refine (between_one 1 6 l.length false _ _ (Ints.one' _ _ _ _ (by simp)) hc).mono ?_
  rintro e w2 ⟨rfl, rfl⟩
  have B9 := bal B1 (.cells #[.int .i64 l.length] 3)
  have g5 := (B9.block _ hl1).trans f1
  have d1 := cell_of_one g5
  have d2 := free_of_one g5
  have d3 := store_res g5 (.slice none 0 0)
  have HB := hid (Below.setCell (btr hX B9) (p := ⟨w.heap.size + 1, 0, none⟩) (Nat.le_succ _) (.slice none 0 0))
  clear g5 f1
  go_wp2
  (try simp only [Exit.inBlock, Exit.then])
  refine bodyPost_ret (v := .tuple #[.agg #[.slice none 0 0], .int .i64 2]) ?_ rfl ⟨rfl, HB.out⟩
  rw [results_cell_tmp rfl]
  go_simp

end Go.Proofs.YtibaihchnbbokaaDoor
