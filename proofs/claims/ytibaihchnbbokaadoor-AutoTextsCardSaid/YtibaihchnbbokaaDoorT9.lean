/-
  What Image, Preimage and Run return.
-/
import Derived.Test.YtibaihchnbbokaaDoorT8
namespace Go.Proofs.YtibaihchnbbokaaDoor
open Go.RowKit Go.Shelf

set_option maxHeartbeats 400000 in
theorem Image_form (v s u : Value) (m : List (List Int)) (sl ul : List Int) (w : World) (hT : Tab w) (h : Rows w v m) (hs : Ints w s sl) (hu : Ints w u ul) (hv : validM m = false) :
    Calls Tryd.prog 22 #[.agg #[v], s, u] w (ListErr w 1) := by
  have hB := bal (bal (Below.refl w.heap.size w) (.cells #[v] 24)) (.cells #[u] 25)
  have hr := h.below hB
  have hss := hs.below hB
  have huu := hu.below hB
  have hTT := hT.on hB
  obtain ⟨A, cap, rfl, hml, hc⟩ := h
  obtain ⟨As, caps, rfl, hls, hcs⟩ := hs
  obtain ⟨Au, capu, rfl, hlu, hcu⟩ := hu
  clear hc hcs hcu
  go_enter Tryd.func22, Tryd.ntmps22
  go_wp2_with fail
  refine (led_form _ _ _ _ m sl ul _ hr hss huu hv).mono ?_
  rintro e w1 ⟨rfl, hb1⟩
  go_wp2
  go_ret2
  exact ⟨rfl, btr hB hb1⟩

set_option maxHeartbeats 400000 in
theorem Image_arg (v s u : Value) (m : List (List Int)) (sl ul : List Int) (w : World) (hT : Tab w) (h : Rows w v m) (hs : Ints w s sl) (hu : Ints w u ul) (hv : validM m = true) (ha : (isSetM m sl && isWordM m ul) = false) :
    Calls Tryd.prog 22 #[.agg #[v], s, u] w (ListErr w 2) := by
  have hB := bal (bal (Below.refl w.heap.size w) (.cells #[v] 24)) (.cells #[u] 25)
  have hr := h.below hB
  have hss := hs.below hB
  have huu := hu.below hB
  have hTT := hT.on hB
  obtain ⟨A, cap, rfl, hml, hc⟩ := h
  obtain ⟨As, caps, rfl, hls, hcs⟩ := hs
  obtain ⟨Au, capu, rfl, hlu, hcu⟩ := hu
  clear hc hcs hcu
  by_cases h1 : isSetM m sl = true
  · have h2 : isWordM m ul = false := by simpa [h1] using ha
    clear ha
    go_enter Tryd.func22, Tryd.ntmps22
    go_wp2_with fail
    refine (led_word _ _ _ _ m sl ul _ hr hss huu hv h1 h2).mono ?_
    rintro e w1 ⟨rfl, hb1⟩
    go_wp2
    go_ret2
    exact ⟨rfl, btr hB hb1⟩
  · have h2 : isSetM m sl = false := by simpa using h1
    clear ha h1
    go_enter Tryd.func22, Tryd.ntmps22
    go_wp2_with fail
    refine (led_set _ _ _ _ m sl ul _ hr hss huu hv h2).mono ?_
    rintro e w1 ⟨rfl, hb1⟩
    go_wp2
    go_ret2
    exact ⟨rfl, btr hB hb1⟩

set_option maxHeartbeats 400000 in
theorem Image_ok (v s u : Value) (m : List (List Int)) (sl ul : List Int) (w : World) (hT : Tab w) (h : Rows w v m) (hs : Ints w s sl) (hu : Ints w u ul) (hv : validM m = true) (h1 : isSetM m sl = true) (h2 : isWordM m ul = true) :
    Calls Tryd.prog 22 #[.agg #[v], s, u] w (ListOk w (imageM m sl ul)) := by
  have hB := bal (bal (Below.refl w.heap.size w) (.cells #[v] 24)) (.cells #[u] 25)
  have hr := h.below hB
  have hss := hs.below hB
  have huu := hu.below hB
  have hTT := hT.on hB
  obtain ⟨A, cap, rfl, hml, hc⟩ := h
  obtain ⟨As, caps, rfl, hls, hcs⟩ := hs
  obtain ⟨Au, capu, rfl, hlu, hcu⟩ := hu
  clear hc hcs hcu
  go_enter Tryd.func22, Tryd.ntmps22
  go_wp2_with fail
  refine (led_Image (w.heap.size + 1) w.heap.size _ _ _ m sl ul _ hTT hr hss huu hv h1 h2 (by simp [go_sem]) (by simp [go_sem])).mono ?_
  rintro e w1 ⟨lv, rfl, hlv, hb1⟩
  go_wp2
  go_ret2
  exact ⟨_, rfl, hlv, btr hB hb1⟩

set_option maxHeartbeats 400000 in
theorem Preimage_form (v s u : Value) (m : List (List Int)) (sl ul : List Int) (w : World) (hT : Tab w) (h : Rows w v m) (hs : Ints w s sl) (hu : Ints w u ul) (hv : validM m = false) :
    Calls Tryd.prog 23 #[.agg #[v], s, u] w (ListErr w 1) := by
  have hB := bal (bal (Below.refl w.heap.size w) (.cells #[v] 24)) (.cells #[u] 25)
  have hr := h.below hB
  have hss := hs.below hB
  have huu := hu.below hB
  have hTT := hT.on hB
  obtain ⟨A, cap, rfl, hml, hc⟩ := h
  obtain ⟨As, caps, rfl, hls, hcs⟩ := hs
  obtain ⟨Au, capu, rfl, hlu, hcu⟩ := hu
  clear hc hcs hcu
  go_enter Tryd.func23, Tryd.ntmps23
  go_wp2_with fail
  refine (led_form _ _ _ _ m sl ul _ hr hss huu hv).mono ?_
  rintro e w1 ⟨rfl, hb1⟩
  go_wp2
  go_ret2
  exact ⟨rfl, btr hB hb1⟩

set_option maxHeartbeats 400000 in
theorem Preimage_arg (v s u : Value) (m : List (List Int)) (sl ul : List Int) (w : World) (hT : Tab w) (h : Rows w v m) (hs : Ints w s sl) (hu : Ints w u ul) (hv : validM m = true) (ha : (isSetM m sl && isWordM m ul) = false) :
    Calls Tryd.prog 23 #[.agg #[v], s, u] w (ListErr w 2) := by
  have hB := bal (bal (Below.refl w.heap.size w) (.cells #[v] 24)) (.cells #[u] 25)
  have hr := h.below hB
  have hss := hs.below hB
  have huu := hu.below hB
  have hTT := hT.on hB
  obtain ⟨A, cap, rfl, hml, hc⟩ := h
  obtain ⟨As, caps, rfl, hls, hcs⟩ := hs
  obtain ⟨Au, capu, rfl, hlu, hcu⟩ := hu
  clear hc hcs hcu
  by_cases h1 : isSetM m sl = true
  · have h2 : isWordM m ul = false := by simpa [h1] using ha
    clear ha
    go_enter Tryd.func23, Tryd.ntmps23
    go_wp2_with fail
    refine (led_word _ _ _ _ m sl ul _ hr hss huu hv h1 h2).mono ?_
    rintro e w1 ⟨rfl, hb1⟩
    go_wp2
    go_ret2
    exact ⟨rfl, btr hB hb1⟩
  · have h2 : isSetM m sl = false := by simpa using h1
    clear ha h1
    go_enter Tryd.func23, Tryd.ntmps23
    go_wp2_with fail
    refine (led_set _ _ _ _ m sl ul _ hr hss huu hv h2).mono ?_
    rintro e w1 ⟨rfl, hb1⟩
    go_wp2
    go_ret2
    exact ⟨rfl, btr hB hb1⟩

set_option maxHeartbeats 400000 in
theorem Preimage_ok (v s u : Value) (m : List (List Int)) (sl ul : List Int) (w : World) (hT : Tab w) (h : Rows w v m) (hs : Ints w s sl) (hu : Ints w u ul) (hv : validM m = true) (h1 : isSetM m sl = true) (h2 : isWordM m ul = true) :
    Calls Tryd.prog 23 #[.agg #[v], s, u] w (ListOk w (preimageM m sl ul)) := by
  have hB := bal (bal (Below.refl w.heap.size w) (.cells #[v] 24)) (.cells #[u] 25)
  have hr := h.below hB
  have hss := hs.below hB
  have huu := hu.below hB
  have hTT := hT.on hB
  obtain ⟨A, cap, rfl, hml, hc⟩ := h
  obtain ⟨As, caps, rfl, hls, hcs⟩ := hs
  obtain ⟨Au, capu, rfl, hlu, hcu⟩ := hu
  clear hc hcs hcu
  go_enter Tryd.func23, Tryd.ntmps23
  go_wp2_with fail
  refine (led_Preimage (w.heap.size + 1) w.heap.size _ _ _ m sl ul _ hTT hr hss huu hv h1 h2 (by simp [go_sem]) (by simp [go_sem])).mono ?_
  rintro e w1 ⟨lv, rfl, hlv, hb1⟩
  go_wp2
  go_ret2
  exact ⟨_, rfl, hlv, btr hB hb1⟩

def stateM (m : List (List Int)) (s : Int) : Bool := inB 0 ((m.length : Int) - 1) s
/-- A number and an error. -/
def NumIs (w : World) (s n : Int) (e : Ending) (w' : World) : Prop := e = .returned (.tuple #[.int .i64 s, .int .i64 n]) ∧ Below w.heap.size w w'

set_option maxHeartbeats 400000 in
theorem Run_form (v u : Value) (m : List (List Int)) (s : Int) (ul : List Int) (w : World) (h : Rows w v m) (hu : Ints w u ul) (hv : validM m = false) :
    Calls Tryd.prog 15 #[.agg #[v], .int .i64 s, u] w (NumIs w 0 1) := by
  have hr := h.alloc (.cells #[v] 24)
  obtain ⟨A, cap, rfl, hml, hc⟩ := h
  obtain ⟨Au, capu, rfl, hlu, hcu⟩ := hu
  clear hc hcu
  go_enter Tryd.func15, Tryd.ntmps15
  go_wp2_with fail
  refine (Valid_bool _ m false _ hr hv).mono ?_
  rintro e w1 ⟨rfl, hb1⟩
  go_wp2
  go_ret2
  exact ⟨rfl, btr (bal (Below.refl _ _) _) hb1⟩

set_option maxHeartbeats 400000 in
theorem Run_state (v u : Value) (m : List (List Int)) (s : Int) (ul : List Int) (w : World) (h : Rows w v m) (hu : Ints w u ul) (hv : validM m = true) (hs : stateM m s = false) :
    Calls Tryd.prog 15 #[.agg #[v], .int .i64 s, u] w (NumIs w 0 2) := by
  have hr := h.alloc (.cells #[v] 24)
  obtain ⟨A, cap, rfl, hml, hc⟩ := h
  obtain ⟨Au, capu, rfl, hlu, hcu⟩ := hu
  clear hc hcu
  go_enter Tryd.func15, Tryd.ntmps15
  go_wp2_with fail
  refine (Valid_bool _ m true _ hr hv).mono ?_
  rintro e w1 ⟨rfl, hb1⟩
  have hbx : w1.cell? ⟨w.heap.size, 0, none⟩ = some (.slice A m.length cap) := (hb1.cell (p := ⟨w.heap.size, 0, none⟩) (by simp)).trans (by simp [go_sem])
  have hr1 := hr.below hb1
  go_wp2_with fail
  refine (areStates_bool _ _ m [s] false _ (hr1.alloc _) (Ints.one w1 s 3) (by simpa [stateM] using hs)).mono ?_
  rintro e w2 ⟨rfl, hb2⟩
  go_wp2
  go_ret2
  exact ⟨rfl, btr (bal (btr (bal (Below.refl _ _) _) hb1) _) hb2⟩

set_option maxHeartbeats 400000 in
theorem Run_word (v u : Value) (m : List (List Int)) (s : Int) (ul : List Int) (w : World) (h : Rows w v m) (hu : Ints w u ul) (hv : validM m = true) (hs : stateM m s = true) (hw : isWordM m ul = false) :
    Calls Tryd.prog 15 #[.agg #[v], .int .i64 s, u] w (NumIs w 0 2) := by
  have hr := h.alloc (.cells #[v] 24)
  have huu := hu.alloc (.cells #[v] 24)
  obtain ⟨A, cap, rfl, hml, hc⟩ := h
  obtain ⟨Au, capu, rfl, hlu, hcu⟩ := hu
  clear hc hcu
  go_enter Tryd.func15, Tryd.ntmps15
  go_wp2_with fail
  refine (Valid_bool _ m true _ hr hv).mono ?_
  rintro e w1 ⟨rfl, hb1⟩
  have hbx : w1.cell? ⟨w.heap.size, 0, none⟩ = some (.slice A m.length cap) := (hb1.cell (p := ⟨w.heap.size, 0, none⟩) (by simp)).trans (by simp [go_sem])
  have hr1 := hr.below hb1
  have hu1 := huu.below hb1
  go_wp2_with fail
  refine (areStates_bool _ _ m [s] true _ (hr1.alloc _) (Ints.one w1 s 3) (by simpa [stateM] using hs)).mono ?_
  rintro e w2 ⟨rfl, hb2⟩
  have hb2' := btr (bal (Below.refl w1.heap.size w1) (.cells #[.int .i64 s] 3)) hb2
  have hbx2 := (hb2'.cell (p := ⟨w.heap.size, 0, none⟩) (World.block_lt_of_cell? _ _ hbx)).trans hbx
  have hr2 := hr1.below hb2'
  have hu2 := hu1.below hb2'
  go_wp2_with fail
  refine (isWord_bool _ _ m ul false _ hr2 hv hu2 hw).mono ?_
  rintro e w3 ⟨rfl, hb3⟩
  go_wp2
  go_ret2
  exact ⟨rfl, btr (btr (btr (bal (Below.refl _ _) _) hb1) hb2') hb3⟩

set_option maxHeartbeats 400000 in
theorem Run_ok (v u : Value) (m : List (List Int)) (s : Nat) (ul : List Int) (w : World) (h : Rows w v m) (hu : Ints w u ul) (hv : validM m = true) (hs : s < m.length) (hw : isWordM m ul = true) :
    Calls Tryd.prog 15 #[.agg #[v], .int .i64 s, u] w (NumIs w (runM m s ul : Nat) 0) := by
  have hr := h.alloc (.cells #[v] 24)
  have huu := hu.alloc (.cells #[v] 24)
  have hst : [(s : Int)].all (inB 0 ((m.length : Int) - 1)) = true := by simp [inB]; omega
  have hsl := isWordM_all hw
  obtain ⟨A, cap, rfl, hml, hc⟩ := h
  obtain ⟨Au, capu, rfl, hlu, hcu⟩ := hu
  clear hc hcu
  go_enter Tryd.func15, Tryd.ntmps15
  go_wp2_with fail
  refine (Valid_bool _ m true _ hr hv).mono ?_
  rintro e w1 ⟨rfl, hb1⟩
  have hbx : w1.cell? ⟨w.heap.size, 0, none⟩ = some (.slice A m.length cap) := (hb1.cell (p := ⟨w.heap.size, 0, none⟩) (by simp)).trans (by simp [go_sem])
  have hr1 := hr.below hb1
  have hu1 := huu.below hb1
  go_wp2_with fail
  refine (areStates_bool _ _ m [(s : Int)] true _ (hr1.alloc _) (Ints.one w1 s 3) hst).mono ?_
  rintro e w2 ⟨rfl, hb2⟩
  have hb2' := btr (bal (Below.refl w1.heap.size w1) (.cells #[.int .i64 s] 3)) hb2
  have hbx2 := (hb2'.cell (p := ⟨w.heap.size, 0, none⟩) (World.block_lt_of_cell? _ _ hbx)).trans hbx
  have hr2 := hr1.below hb2'
  have hu2 := hu1.below hb2'
  go_wp2_with fail
  refine (isWord_bool _ _ m ul true _ hr2 hv hu2 hw).mono ?_
  rintro e w3 ⟨rfl, hb3⟩
  have hbx3 := (hb3.cell (p := ⟨w.heap.size, 0, none⟩) (World.block_lt_of_cell? _ _ hbx2)).trans hbx2
  have hr3 := hr2.below hb3
  have hu3 := hu2.below hb3
  go_wp2_with fail
  refine (run_any _ _ m s ul _ hr3 hv hs hu3 hsl).mono ?_
  rintro e w4 ⟨rfl, hb4⟩
  go_wp2
  go_ret2
  exact ⟨rfl, btr (btr (btr (btr (bal (Below.refl _ _) _) hb1) hb2') hb3) hb4⟩
end Go.Proofs.YtibaihchnbbokaaDoor
