/-
  Images and preimages by words, as the closures make them; what a set of states is.
-/
import Derived.Test.YtibaihchnbbokaaDoorT6
import Derived.Test.YtibaihchnbbokaaDoorT7
import Derived.BigQuiet
import Derived.Deep.QuietTactic
namespace Go.Proofs.YtibaihchnbbokaaDoor
open Go.RowKit Go.Shelf

def imgSet (m : List (List Int)) (S : Nat) (x : Int) : Nat := imgTo m x (elems S)
def imgWord (m : List (List Int)) (S : Nat) (u : List Int) : Nat := u.foldl (imgSet m) S
def preSet (m : List (List Int)) (S : Nat) (x : Int) : Nat := preTo m S x m.length
def preWord (m : List (List Int)) (S : Nat) (u : List Int) : Nat := u.foldr (fun x T => preSet m T x) S

theorem imgWord_snoc (m : List (List Int)) (S : Nat) (u : List Int) (k : Nat) (hk : k < u.length) : imgWord m S (u.take (k + 1)) = imgSet m (imgWord m S (u.take k)) (u.getD k 0) := by
  unfold imgWord
  rw [List.take_succ_eq_append_getElem hk, List.foldl_append]
  simp [List.getD_eq_getElem?_getD, List.getElem?_eq_getElem hk]
theorem imgSet_lt {m : List (List Int)} (hv : validM m = true) {S : Nat} (hS : S < 2 ^ m.length) {x : Int} (h0 : 0 ≤ x) (h1 : x < letters m) : imgSet m S x < 2 ^ m.length :=
  imgTo_lt m x m.length _ (fun _ hs => (nx_ok hv (elems_lt hS hs) h0 h1).1)
theorem imgWord_lt {m : List (List Int)} (hv : validM m = true) : ∀ (u : List Int) (S : Nat), S < 2 ^ m.length → u.all (inB 0 ((letters m : Int) - 1)) = true → imgWord m S u < 2 ^ m.length
  | [], S, hS, _ => hS
  | x :: u, S, hS, hu => by
    simp only [List.all_cons, Bool.and_eq_true, inB_iff] at hu
    exact imgWord_lt hv u _ (imgSet_lt hv hS hu.1.1 (by omega)) hu.2

set_option maxHeartbeats 400000 in
theorem Image1_any (bw ba : Nat) (vw va : Value) (m : List (List Int)) (S : Nat) (l : List Int) (w : World) (hT : Tab w) (hcw : w.cell? ⟨bw, 0, none⟩ = some vw) (hca : w.cell? ⟨ba, 0, none⟩ = some va)
    (hu : Ints w vw l) (h : Rows w va m) (hv : validM m = true) (hS : S < 2 ^ m.length) (hl : l.all (inB 0 ((letters m : Int) - 1)) = true) :
    Calls Tryd.prog 61 #[.int .u64 S, .pointer (some ⟨bw, 0, none⟩), .pointer (some ⟨ba, 0, none⟩)] w fun e w' => e = .returned (.int .u64 (imgWord m S l : Nat)) ∧ Below w.heap.size w w' := by
  obtain ⟨Au, capu, rfl, hlu, hcu⟩ := hu
  have hr := h
  obtain ⟨A, cap, rfl, hml, hc⟩ := h
  have hbw := World.block_lt_of_cell? _ _ hcw
  have hba := World.block_lt_of_cell? _ _ hca
  unfold big at hlu
  clear hc
  go_enter Tryd.func61, Tryd.ntmps61
  go_wp2
  go_loopw [0, 9] (fun S' i wr => ∃ k : Nat, k ≤ l.length ∧ i = .int .i64 k ∧ S' = .int .u64 (imgWord m S (l.take k) : Nat) ∧ Below w.heap.size w wr) (fun _ i _ => l.length - (intOf i).toNat)
  case atStart => exact ⟨0, Nat.zero_le _, rfl, rfl, Below.refl _ _⟩
  case round =>
    obtain ⟨k, hk, rfl, rfl, hB⟩ := hrel
    by_cases hlt : k < l.length
    · have hq := imgWord_lt hv (l.take k) S hS (all_take _ _ hl k)
      have hx := all_getD _ l 0 hl k hlt
      rw [inB_iff] at hx
      have Hs := hid (imgWord_snoc m S l k hlt)
      obtain ⟨bu, offu, hAu, hcell⟩ := hcu k hlt
      subst hAu
      have hcu' := (hB.cell (p := ⟨bu, offu + k, none⟩) (World.block_lt_of_cell? _ _ hcell)).trans hcell
      have hca' := (hB.cell (p := ⟨ba, 0, none⟩) hba).trans hca
      have hTr := hT.on hB
      have hrr := hr.below hB
      clear hcw hca hcu hcell hT hr
      generalize imgWord m S (l.take k) = q at *
      generalize l.getD k 0 = x at *
      obtain ⟨xn, rfl⟩ := Int.eq_ofNat_of_zero_le hx.1
      have hIm := SetImage_any _ m q xn wr hTr hrr hv hq (by omega)
      clear hx hl
      go_wp2_with fail
      refine hIm.mono ?_
      rintro e w1 ⟨rfl, hb1⟩
      go_wp2
      go_roundw
      case rel => exact ⟨k + 1, by omega, by go_num, by rw [Hs.out]; rfl, btr hB hb1⟩
      case measure => simp [intOf]; omega
    · go_wp2
      go_ret
      exact ⟨ret_int (by rw [List.take_of_length_le (by omega)]), hB⟩

theorem preSet_lt {m : List (List Int)} (hv : validM m = true) (S : Nat) (x : Int) : preSet m S x < 2 ^ m.length := by
  have := (valid_parts hv).2.1
  exact preTo_lt m S x m.length (by omega) m.length (Nat.le_refl _)
theorem preWord_lt {m : List (List Int)} (hv : validM m = true) {S : Nat} (hS : S < 2 ^ m.length) : ∀ u : List Int, preWord m S u < 2 ^ m.length
  | [] => hS
  | x :: u => preSet_lt hv _ _
def l0 (u : List Int) (k : Nat) : Int := u.getD k 0
theorem preWord_drop (m : List (List Int)) (S : Nat) (u : List Int) (k : Nat) (hk : k < u.length) : preWord m S (u.drop k) = preSet m (preWord m S (u.drop (k + 1))) (u.getD k 0) := by
  unfold preWord
  have e : l0 u k = u[k] := by simp [l0, List.getD_eq_getElem?_getD, List.getElem?_eq_getElem hk]
  rw [List.drop_eq_getElem_cons hk, List.foldr_cons]
  show _ = preSet m _ (l0 u k)
  rw [e]

set_option maxHeartbeats 400000 in
theorem Preimage1_any (bw ba : Nat) (vw va : Value) (m : List (List Int)) (S : Nat) (l : List Int) (w : World) (hcw : w.cell? ⟨bw, 0, none⟩ = some vw) (hca : w.cell? ⟨ba, 0, none⟩ = some va)
    (hu : Ints w vw l) (h : Rows w va m) (hv : validM m = true) (hS : S < 2 ^ m.length) (hl : l.all (inB 0 ((letters m : Int) - 1)) = true) :
    Calls Tryd.prog 63 #[.int .u64 S, .pointer (some ⟨bw, 0, none⟩), .pointer (some ⟨ba, 0, none⟩)] w fun e w' => e = .returned (.int .u64 (preWord m S l : Nat)) ∧ Below w.heap.size w w' := by
  obtain ⟨Au, capu, rfl, hlu, hcu⟩ := hu
  have hr := h
  obtain ⟨A, cap, rfl, hml, hc⟩ := h
  have hbw := World.block_lt_of_cell? _ _ hcw
  have hba := World.block_lt_of_cell? _ _ hca
  have hn60 := (valid_parts hv).2.1
  unfold big at hlu
  clear hc
  go_enter Tryd.func63, Tryd.ntmps63
  go_wp2
  go_loopw [0, 5] (fun S' i wr => ∃ k : Nat, k ≤ l.length ∧ i = .int .i64 ((k : Int) - 1) ∧ S' = .int .u64 (preWord m S (l.drop k) : Nat) ∧ Below w.heap.size w wr) (fun _ i _ => (intOf i + 1).toNat)
  case atStart => exact ⟨l.length, Nat.le_refl _, rfl, by rw [List.drop_length]; rfl, Below.refl _ _⟩
  case round =>
    obtain ⟨k, hk, rfl, rfl, hB⟩ := hrel
    by_cases hpos : 0 < k
    · obtain ⟨j, rfl⟩ : ∃ j, k = j + 1 := ⟨k - 1, by omega⟩
      have hq := preWord_lt hv hS (l.drop (j + 1))
      have hq64 : preWord m S (l.drop (j + 1)) < 2 ^ 64 := Nat.lt_of_lt_of_le hq (Nat.pow_le_pow_right (by decide) (by omega))
      have hx := all_getD _ l 0 hl j (by omega)
      rw [inB_iff] at hx
      have Hs := hid (preWord_drop m S l j (by omega))
      obtain ⟨bu, offu, hAu, hcell⟩ := hcu j (by omega)
      subst hAu
      have hcu' := (hB.cell (p := ⟨bu, offu + j, none⟩) (World.block_lt_of_cell? _ _ hcell)).trans hcell
      have hca' := (hB.cell (p := ⟨ba, 0, none⟩) hba).trans hca
      have hcw' := (hB.cell (p := ⟨bw, 0, none⟩) hbw).trans hcw
      have hrr := hr.below hB
      clear hcw hca hcu hcell hr
      generalize preWord m S (l.drop (j + 1)) = q at *
      generalize l.getD j 0 = x at *
      obtain ⟨xn, rfl⟩ := Int.eq_ofNat_of_zero_le hx.1
      have ej : ((j + 1 : Nat) : Int) - 1 = (j : Int) := by omega
      rw [ej]
      have hjl : (j : Int) < l.length := by omega
      have hxl : xn < letters m := by omega
      clear hx hl ej
      go_wp2_with fail
      go_quiet ((go_at_call 64; exact Calls.quiet_of_same ((SetPreimage_any _ m q xn _ (hrr.drewN _) hv hq64 hxl).mono fun _ _ ⟨h1, h2⟩ => ⟨h1, h2.symm⟩)))
      go_wp2
      go_roundw
      case rel => exact ⟨j, by omega, rfl, by rw [Hs.out]; rfl, bdr hB _⟩
      case measure => simp [intOf]
    · obtain rfl : k = 0 := by omega
      go_wp2
      go_ret
      exact ⟨rfl, hB⟩

/-- Strictly increasing, and of states. -/
def incr (l : List Int) (k : Nat) : Bool := (List.range k).all fun i => decide (l.getD i 0 < l.getD (i + 1) 0)
def isSetM (m : List (List Int)) (l : List Int) : Bool := incr l (l.length - 1) && l.all (inB 0 ((m.length : Int) - 1))
theorem incr_succ (l : List Int) (k : Nat) : incr l (k + 1) = (incr l k && decide (l.getD k 0 < l.getD (k + 1) 0)) := by
  simp [incr, List.range_succ, List.all_append]
theorem incr_false (l : List Int) {k n : Nat} (hk : k < n) (h : ¬ l.getD k 0 < l.getD (k + 1) 0) : incr l n = false := by
  unfold incr
  rw [List.all_eq_false]
  exact ⟨k, List.mem_range.2 hk, by rw [decide_eq_true_iff]; exact h⟩

set_option maxHeartbeats 400000 in
theorem isSet_any (v u : Value) (m : List (List Int)) (l : List Int) (w : World) (h : Rows w v m) (hu : Ints w u l) :
    Calls Tryd.prog 86 #[.agg #[v], u] w fun e w' => e = .returned (.bool (isSetM m l)) ∧ Below w.heap.size w w' := by
  have hr := h
  have hur := hu
  obtain ⟨A, cap, rfl, hml, hc⟩ := h
  obtain ⟨Au, capu, rfl, hlu, hcu⟩ := hu
  unfold big at hml hlu
  clear hc
  go_enter Tryd.func86, Tryd.ntmps86
  go_wp2
  go_loopw [5] (fun i wr => ∃ k : Nat, (k = 0 ∨ k + 1 ≤ l.length) ∧ i = .int .i64 ((k : Int) + 1) ∧ incr l k = true ∧ Below w.heap.size w wr ∧ wr.cell? ⟨w.heap.size, 0, none⟩ = some (.slice A m.length cap)) (fun i _ => l.length - (intOf i).toNat)
  case atStart => exact ⟨0, .inl rfl, rfl, rfl, bal (Below.refl _ _) _, by simp [go_sem]⟩
  case round =>
    obtain ⟨k, hk, rfl, hinc, hB, hbox⟩ := hrel
    have hsz : w.heap.size < wr.heap.size := World.block_lt_of_cell? _ _ hbox
    by_cases hlt : k + 1 < l.length
    · obtain ⟨bu, offu, hAu, hcell⟩ := hcu k (by omega)
      obtain ⟨bu', offu', hAu', hcell'⟩ := hcu (k + 1) hlt
      subst hAu
      cases hAu'
      have c1 := (hB.cell (p := ⟨bu, offu + k, none⟩) (World.block_lt_of_cell? _ _ hcell)).trans hcell
      have c2 := (hB.cell (p := ⟨bu, offu + (k + 1), none⟩) (World.block_lt_of_cell? _ _ hcell')).trans hcell'
      have Hs := hid (incr_succ l k)
      have Hf := hid (incr_false l (k := k) (n := l.length - 1) (by omega))
      have Hi := hid hinc
      clear hcell hcell' hcu hinc hr hur
      generalize l.getD k 0 = x at *
      generalize l.getD (k + 1) 0 = y at *
      have i1 : (k : Int) + 1 < l.length := by omega
      have i2 : (k : Int) < l.length := by omega
      have i3 : IntKind.i64.wrap ((k : Int) + 1 - 1) = (k : Int) := by rw [IntKind.wrap_i64]; omega
      have i4 : ((k : Int) + 1).toNat = k + 1 := by omega
      by_cases hxy : x < y
      · have hd : decide (y ≤ x) = false := by simp; omega
        go_wp2_with fail
        go_quiet (fail)
        go_wp2
        go_roundw
        case rel => exact ⟨k + 1, .inr (by omega), by simp, by rw [Hs.out, Hi.out]; simp [hxy], bdr hB _, hbox⟩
        case measure => simp [intOf]; omega
      · have hd : decide (y ≤ x) = true := by simp; omega
        go_wp2_with fail
        go_quiet (fail)
        go_wp2
        go_ret
        exact ⟨ret_bool (by rw [isSetM, Hf.out hxy]; rfl), bdr hB _⟩
    · have hur' := hur.below hB
      have hrr := hr.below hB
      have hil : ¬ ((k : Int) + 1 < l.length) := by omega
      go_wp2_with fail
      refine (areStates_any _ _ m l _ hrr hur').mono ?_
      rintro e w1 ⟨rfl, hb1⟩
      go_wp2
      go_ret
      refine ⟨ret_bool ?_, btr hB hb1⟩
      have : l.length - 1 = k := by omega
      simp [isSetM, this, hinc]

theorem isSetM_mem {m : List (List Int)} {l : List Int} (h : isSetM m l = true) : ∀ x ∈ l, 0 ≤ x ∧ x < (m.length : Int) := by
  simp only [isSetM, Bool.and_eq_true] at h
  intro x hx
  have := List.all_eq_true.1 h.2 x hx
  rw [inB_iff] at this
  omega
theorem isWordM_all {m : List (List Int)} {l : List Int} (h : isWordM m l = true) : l.all (inB 0 ((letters m : Int) - 1)) = true := by
  simp only [isWordM, Bool.and_eq_true] at h
  exact h.2

def imageM (m : List (List Int)) (s u : List Int) : List Int := intsOf (elems (imgWord m (ofList s) u))
def preimageM (m : List (List Int)) (s u : List Int) : List Int := intsOf (elems (preWord m (ofList s) u))

theorem Valid_bool (v : Value) (m : List (List Int)) (b : Bool) (w : World) (h : Rows w v m) (hb : validM m = b) :
    Calls Tryd.prog 16 #[.agg #[v]] w fun e w' => e = .returned (.bool b) ∧ Below w.heap.size w w' := by
  subst hb; exact Valid_any v m w h
theorem isSet_bool (v u : Value) (m : List (List Int)) (l : List Int) (b : Bool) (w : World) (h : Rows w v m) (hu : Ints w u l) (hb : isSetM m l = b) :
    Calls Tryd.prog 86 #[.agg #[v], u] w fun e w' => e = .returned (.bool b) ∧ Below w.heap.size w w' := by
  subst hb; exact isSet_any v u m l w h hu
theorem isWord_bool (v u : Value) (m : List (List Int)) (l : List Int) (b : Bool) (w : World) (h : Rows w v m) (hv : validM m = true) (hu : Ints w u l) (hb : isWordM m l = b) :
    Calls Tryd.prog 57 #[.agg #[v], u] w fun e w' => e = .returned (.bool b) ∧ Below w.heap.size w w' := by
  subst hb; exact isWord_any v u m l w h hv hu

/-- A pair of results: a list, and an error that is none. -/
def ListOk (w : World) (l : List Int) (e : Ending) (w' : World) : Prop := ∃ v, e = .returned (.tuple #[v, .int .i64 0]) ∧ Ints w' v l ∧ Below w.heap.size w w'
/-- .. no list, and an error. -/
def ListErr (w : World) (n : Int) (e : Ending) (w' : World) : Prop := e = .returned (.tuple #[.slice none 0 0, .int .i64 n]) ∧ Below w.heap.size w w'

set_option maxHeartbeats 400000 in
theorem led_form (fv v s u : Value) (m : List (List Int)) (sl ul : List Int) (w : World) (h : Rows w v m) (hs : Ints w s sl) (hu : Ints w u ul) (hv : validM m = false) :
    Calls Tryd.prog 60 #[.agg #[v], s, u, fv] w (ListErr w 1) := by
  have hr := h.alloc (.cells #[v] 24)
  obtain ⟨A, cap, rfl, hml, hc⟩ := h
  obtain ⟨As, caps, rfl, hls, hcs⟩ := hs
  obtain ⟨Au, capu, rfl, hlu, hcu⟩ := hu
  clear hc hcs hcu
  go_enter Tryd.func60, Tryd.ntmps60
  go_wp2_with fail
  refine (Valid_bool _ m false _ hr hv).mono ?_
  rintro e w1 ⟨rfl, hb1⟩
  go_wp2
  go_ret2
  exact ⟨rfl, btr (bal (Below.refl _ _) _) hb1⟩

set_option maxHeartbeats 400000 in
theorem led_set (fv v s u : Value) (m : List (List Int)) (sl ul : List Int) (w : World) (h : Rows w v m) (hs : Ints w s sl) (hu : Ints w u ul) (hv : validM m = true) (hset : isSetM m sl = false) :
    Calls Tryd.prog 60 #[.agg #[v], s, u, fv] w (ListErr w 2) := by
  have hr := h.alloc (.cells #[v] 24)
  have hss := hs.alloc (.cells #[v] 24)
  obtain ⟨A, cap, rfl, hml, hc⟩ := h
  obtain ⟨As, caps, rfl, hls, hcs⟩ := hs
  obtain ⟨Au, capu, rfl, hlu, hcu⟩ := hu
  clear hc hcs hcu
  go_enter Tryd.func60, Tryd.ntmps60
  go_wp2_with fail
  refine (Valid_bool _ m true _ hr hv).mono ?_
  rintro e w1 ⟨rfl, hb1⟩
  have hbx : w1.cell? ⟨w.heap.size, 0, none⟩ = some (.slice A m.length cap) := (hb1.cell (p := ⟨w.heap.size, 0, none⟩) (by simp)).trans (by simp [go_sem])
  have hr1 := hr.below hb1
  have hs1 := hss.below hb1
  go_wp2_with fail
  refine (isSet_bool _ _ m sl false _ hr1 hs1 hset).mono ?_
  rintro e w2 ⟨rfl, hb2⟩
  go_wp2
  go_ret2
  exact ⟨rfl, btr (btr (bal (Below.refl _ _) _) hb1) hb2⟩

set_option maxHeartbeats 400000 in
theorem led_word (fv v s u : Value) (m : List (List Int)) (sl ul : List Int) (w : World) (h : Rows w v m) (hs : Ints w s sl) (hu : Ints w u ul) (hv : validM m = true) (hset : isSetM m sl = true) (hw : isWordM m ul = false) :
    Calls Tryd.prog 60 #[.agg #[v], s, u, fv] w (ListErr w 2) := by
  have hr := h.alloc (.cells #[v] 24)
  have hss := hs.alloc (.cells #[v] 24)
  have huu := hu.alloc (.cells #[v] 24)
  obtain ⟨A, cap, rfl, hml, hc⟩ := h
  obtain ⟨As, caps, rfl, hls, hcs⟩ := hs
  obtain ⟨Au, capu, rfl, hlu, hcu⟩ := hu
  clear hc hcs hcu
  go_enter Tryd.func60, Tryd.ntmps60
  go_wp2_with fail
  refine (Valid_bool _ m true _ hr hv).mono ?_
  rintro e w1 ⟨rfl, hb1⟩
  have hbx : w1.cell? ⟨w.heap.size, 0, none⟩ = some (.slice A m.length cap) := (hb1.cell (p := ⟨w.heap.size, 0, none⟩) (by simp)).trans (by simp [go_sem])
  have hr1 := hr.below hb1
  have hs1 := hss.below hb1
  go_wp2_with fail
  refine (isSet_bool _ _ m sl true _ hr1 hs1 hset).mono ?_
  rintro e w2 ⟨rfl, hb2⟩
  have hbx2 := (hb2.cell (p := ⟨w.heap.size, 0, none⟩) (World.block_lt_of_cell? _ _ hbx)).trans hbx
  have hr2 := hr1.below hb2
  have hu2 := (huu.below hb1).below hb2
  go_wp2_with fail
  refine (isWord_bool _ _ m ul false _ hr2 hv hu2 hw).mono ?_
  rintro e w3 ⟨rfl, hb3⟩
  go_wp2
  go_ret2
  exact ⟨rfl, btr (btr (btr (bal (Below.refl _ _) _) hb1) hb2) hb3⟩

set_option maxHeartbeats 400000 in
theorem led_Image (bw ba : Nat) (v s u : Value) (m : List (List Int)) (sl ul : List Int) (w : World) (hT : Tab w) (h : Rows w v m) (hs : Ints w s sl) (hu : Ints w u ul) (hv : validM m = true) (hset : isSetM m sl = true) (hw : isWordM m ul = true)
    (hcw : w.cell? ⟨bw, 0, none⟩ = some u) (hca : w.cell? ⟨ba, 0, none⟩ = some v) :
    Calls Tryd.prog 60 #[.agg #[v], s, u, .func (.func 61) #[] #[.pointer (some ⟨bw, 0, none⟩), .pointer (some ⟨ba, 0, none⟩)]] w (ListOk w (intsOf (elems (imgWord m (ofList sl) ul)))) := by
  have hr := h.alloc (.cells #[v] 24)
  have hss := hs.alloc (.cells #[v] 24)
  have huu := hu.alloc (.cells #[v] 24)
  have hbw := World.block_lt_of_cell? _ _ hcw
  have hba := World.block_lt_of_cell? _ _ hca
  obtain ⟨p1, p2, _⟩ := valid_parts hv
  have hmem := isSetM_mem hset
  have hS := ofList_lt m.length (by omega) sl hmem
  have hlt := imgWord_lt hv ul _ hS (isWordM_all hw)
  have hlt64 : imgWord m (ofList sl) ul < 2 ^ 64 := Nat.lt_of_lt_of_le hlt (Nat.pow_le_pow_right (by decide) (by omega))
  have hsl := isWordM_all hw
  have hof : ∀ x ∈ sl, 0 ≤ x ∧ x < 64 := fun x hx => by have := hmem x hx; omega
  obtain ⟨A, cap, rfl, hml, hc⟩ := h
  obtain ⟨As, caps, rfl, hls, hcs⟩ := hs
  obtain ⟨Au, capu, rfl, hlu, hcu⟩ := hu
  clear hc hcs hcu
  go_enter Tryd.func60, Tryd.ntmps60
  go_wp2_with fail
  refine (Valid_bool _ m true _ hr hv).mono ?_
  rintro e w1 ⟨rfl, hb1⟩
  have hbx : w1.cell? ⟨w.heap.size, 0, none⟩ = some (.slice A m.length cap) := (hb1.cell (p := ⟨w.heap.size, 0, none⟩) (by simp)).trans (by simp [go_sem])
  have hr1 := hr.below hb1
  have hs1 := hss.below hb1
  go_wp2_with fail
  refine (isSet_bool _ _ m sl true _ hr1 hs1 hset).mono ?_
  rintro e w2 ⟨rfl, hb2⟩
  have hbx2 := (hb2.cell (p := ⟨w.heap.size, 0, none⟩) (World.block_lt_of_cell? _ _ hbx)).trans hbx
  have hr2 := hr1.below hb2
  have hu2 := (huu.below hb1).below hb2
  go_wp2_with fail
  refine (isWord_bool _ _ m ul true _ hr2 hv hu2 hw).mono ?_
  rintro e w3 ⟨rfl, hb3⟩
  have hB3 := btr (btr (btr (bal (Below.refl w.heap.size w) (.cells #[.slice A m.length cap] 24)) hb1) hb2) hb3
  have hs3 := (hs1.below hb2).below hb3
  have hr3 := hr2.below hb3
  have hu3 := hu2.below hb3
  have hcw3 := (hB3.cell (p := ⟨bw, 0, none⟩) hbw).trans hcw
  have hca3 := (hB3.cell (p := ⟨ba, 0, none⟩) hba).trans hca
  have hT3 := hT.on hB3
  go_wp2_with fail
  refine (Of_any _ sl _ hs3 hof).mono ?_
  rintro e w4 ⟨rfl, rfl⟩
  go_wp2_with fail
  refine (Image1_any bw ba _ _ m (ofList sl) ul _ hT3 hcw3 hca3 hu3 hr3 hv hS hsl).mono ?_
  rintro e w5 ⟨rfl, hb5⟩
  go_wp2_with fail
  refine (List_any _ _ (hT3.on hb5) hlt64).mono ?_
  rintro e w6 ⟨lv, rfl, hlv, hb6⟩
  go_wp2
  go_ret2
  exact ⟨_, rfl, hlv, btr (btr hB3 hb5) hb6⟩

set_option maxHeartbeats 400000 in
theorem led_Preimage (bw ba : Nat) (v s u : Value) (m : List (List Int)) (sl ul : List Int) (w : World) (hT : Tab w) (h : Rows w v m) (hs : Ints w s sl) (hu : Ints w u ul) (hv : validM m = true) (hset : isSetM m sl = true) (hw : isWordM m ul = true)
    (hcw : w.cell? ⟨bw, 0, none⟩ = some u) (hca : w.cell? ⟨ba, 0, none⟩ = some v) :
    Calls Tryd.prog 60 #[.agg #[v], s, u, .func (.func 63) #[] #[.pointer (some ⟨bw, 0, none⟩), .pointer (some ⟨ba, 0, none⟩)]] w (ListOk w (intsOf (elems (preWord m (ofList sl) ul)))) := by
  have hr := h.alloc (.cells #[v] 24)
  have hss := hs.alloc (.cells #[v] 24)
  have huu := hu.alloc (.cells #[v] 24)
  have hbw := World.block_lt_of_cell? _ _ hcw
  have hba := World.block_lt_of_cell? _ _ hca
  obtain ⟨p1, p2, _⟩ := valid_parts hv
  have hmem := isSetM_mem hset
  have hS := ofList_lt m.length (by omega) sl hmem
  have hlt := preWord_lt hv hS ul
  have hlt64 : preWord m (ofList sl) ul < 2 ^ 64 := Nat.lt_of_lt_of_le hlt (Nat.pow_le_pow_right (by decide) (by omega))
  have hsl := isWordM_all hw
  have hof : ∀ x ∈ sl, 0 ≤ x ∧ x < 64 := fun x hx => by have := hmem x hx; omega
  obtain ⟨A, cap, rfl, hml, hc⟩ := h
  obtain ⟨As, caps, rfl, hls, hcs⟩ := hs
  obtain ⟨Au, capu, rfl, hlu, hcu⟩ := hu
  clear hc hcs hcu
  go_enter Tryd.func60, Tryd.ntmps60
  go_wp2_with fail
  refine (Valid_bool _ m true _ hr hv).mono ?_
  rintro e w1 ⟨rfl, hb1⟩
  have hbx : w1.cell? ⟨w.heap.size, 0, none⟩ = some (.slice A m.length cap) := (hb1.cell (p := ⟨w.heap.size, 0, none⟩) (by simp)).trans (by simp [go_sem])
  have hr1 := hr.below hb1
  have hs1 := hss.below hb1
  go_wp2_with fail
  refine (isSet_bool _ _ m sl true _ hr1 hs1 hset).mono ?_
  rintro e w2 ⟨rfl, hb2⟩
  have hbx2 := (hb2.cell (p := ⟨w.heap.size, 0, none⟩) (World.block_lt_of_cell? _ _ hbx)).trans hbx
  have hr2 := hr1.below hb2
  have hu2 := (huu.below hb1).below hb2
  go_wp2_with fail
  refine (isWord_bool _ _ m ul true _ hr2 hv hu2 hw).mono ?_
  rintro e w3 ⟨rfl, hb3⟩
  have hB3 := btr (btr (btr (bal (Below.refl w.heap.size w) (.cells #[.slice A m.length cap] 24)) hb1) hb2) hb3
  have hs3 := (hs1.below hb2).below hb3
  have hr3 := hr2.below hb3
  have hu3 := hu2.below hb3
  have hcw3 := (hB3.cell (p := ⟨bw, 0, none⟩) hbw).trans hcw
  have hca3 := (hB3.cell (p := ⟨ba, 0, none⟩) hba).trans hca
  have hT3 := hT.on hB3
  go_wp2_with fail
  refine (Of_any _ sl _ hs3 hof).mono ?_
  rintro e w4 ⟨rfl, rfl⟩
  go_wp2_with fail
  refine (Preimage1_any bw ba _ _ m (ofList sl) ul _ hcw3 hca3 hu3 hr3 hv hS hsl).mono ?_
  rintro e w5 ⟨rfl, hb5⟩
  go_wp2_with fail
  refine (List_any _ _ (hT3.on hb5) hlt64).mono ?_
  rintro e w6 ⟨lv, rfl, hlv, hb6⟩
  go_wp2
  go_ret2
  exact ⟨_, rfl, hlv, btr (btr hB3 hb5) hb6⟩

end Go.Proofs.YtibaihchnbbokaaDoor
