/-
  The reference's own looks at arguments.
-/
import Derived.Test.YtibaihchnbbokaaDoorT9
namespace Go.Proofs.YtibaihchnbbokaaDoor
open Go.RowKit Go.Shelf

set_option maxHeartbeats 400000 in
theorem rBelow_any (v : Value) (l : List Int) (n : Int) (w : World) (h : Ints w v l) (hn : -9223372036854775808 < n ∧ n ≤ 9223372036854775807) :
    Calls Tryd.prog 42 #[v, .int .i64 n] w fun e w' => e = .returned (.bool (l.all (inB 0 (n - 1)))) ∧ w = w' := by
  obtain ⟨A, cap, rfl, hl, hc⟩ := h
  unfold big at hl
  go_enter Tryd.func42, Tryd.ntmps42
  go_wp2
  go_loop [5] (fun i => ∃ k : Nat, k ≤ l.length ∧ i = .int .i64 k ∧ (l.take k).all (inB 0 (n - 1)) = true) (fun i => l.length - (intOf i).toNat)
  case atStart => exact ⟨0, Nat.zero_le _, rfl, rfl⟩
  case round =>
    obtain ⟨k, hk, rfl, hall⟩ := hrel
    by_cases hlt : k < l.length
    · obtain ⟨b, off, hA, hcell⟩ := hc k hlt
      have hs := all_snoc_take (inB 0 (n - 1)) l 0 k hlt
      rw [hall, Bool.true_and] at hs
      have hf := all_false_of (inB 0 (n - 1)) l 0 k hlt
      have Hs := hid hs
      have Hf := hid hf
      clear hs hf hall hc
      generalize hx : l.getD k 0 = x at *
      clear hx
      subst hA
      by_cases h0 : x < 0
      · have d1 : decide (x < 0) = true := by simp [h0]
        go_wp2
        go_ret
        exact ⟨ret_bool (Hf.out (inB_false (.inl h0))).symm, rfl⟩
      · have d1 : decide (x < 0) = false := by simp; omega
        by_cases h1 : n ≤ x
        · have d2 : decide (n ≤ x) = true := by simp [h1]
          go_wp2
          go_ret
          exact ⟨ret_bool (Hf.out (inB_false (.inr (by omega)))).symm, rfl⟩
        · have d2 : decide (n ≤ x) = false := by simp; omega
          go_wp2
          go_round
          case rel => exact ⟨k + 1, by omega, by go_num, by rw [Hs.out]; exact inB_true (by omega)⟩
          case measure => simp [intOf]; omega
    · go_wp2
      go_ret
      exact ⟨ret_bool (by rw [← hall, List.take_of_length_le (by omega)]), rfl⟩

theorem rBelow_bool (v : Value) (l : List Int) (n : Int) (b : Bool) (w : World) (h : Ints w v l) (hn : -9223372036854775808 < n ∧ n ≤ 9223372036854775807) (hb : l.all (inB 0 (n - 1)) = b) :
    Calls Tryd.prog 42 #[v, .int .i64 n] w fun e w' => e = .returned (.bool b) ∧ w = w' := by
  subst hb; exact rBelow_any v l n w h hn

set_option maxHeartbeats 400000 in
theorem rLetters_any (v : Value) (m : List (List Int)) (w : World) (h : Rows w v m) (hv : validM m = true) :
    Calls Tryd.prog 54 #[.agg #[v]] w fun e w' => e = .returned (.int .i64 (letters m : Nat)) ∧ Below w.heap.size w w' := by
  obtain ⟨p1, p2, p3, p4, p5⟩ := valid_parts hv
  obtain ⟨A, cap, rfl, hl, hc⟩ := h
  obtain ⟨b, off, r0, hA, hcell0, hr0⟩ := hc 0 (by omega)
  subst hA
  obtain ⟨A0, cap0, rfl, hl0, hc0⟩ := hr0
  rw [Nat.add_zero] at hcell0
  have hlet : (m.getD 0 []).length = letters m := rfl
  rw [hlet] at hcell0
  have hbl : b < w.heap.size := World.block_lt_of_cell? _ _ hcell0
  have hin : (0 : Int) < m.length := by omega
  clear hc hc0 hlet p5
  go_enter Tryd.func54, Tryd.ntmps54
  go_wp2
  go_ret
  exact ⟨rfl, bal (Below.refl _ _) _⟩

set_option maxHeartbeats 400000 in
theorem rState_any (v : Value) (m : List (List Int)) (s : Int) (w : World) (h : Rows w v m) :
    Calls Tryd.prog 18 #[.agg #[v], .int .i64 s] w fun e w' => e = .returned (.bool (stateM m s)) ∧ Below w.heap.size w w' := by
  obtain ⟨A, cap, rfl, hl, hc⟩ := h
  clear hc
  by_cases h0 : 0 ≤ s
  · have d1 : decide (0 ≤ s) = true := by simp [h0]
    by_cases h1 : s < m.length
    · have d2 : decide (s < (m.length : Int)) = true := by simp [h1]
      go_enter Tryd.func18, Tryd.ntmps18
      go_wp2
      go_ret
      exact ⟨ret_bool (inB_true (by omega)).symm, bal (Below.refl _ _) _⟩
    · have d2 : decide (s < (m.length : Int)) = false := by simp; omega
      go_enter Tryd.func18, Tryd.ntmps18
      go_wp2
      go_ret
      exact ⟨ret_bool (inB_false (.inr (by omega))).symm, bal (Below.refl _ _) _⟩
  · have d1 : decide (0 ≤ s) = false := by simp; omega
    go_enter Tryd.func18, Tryd.ntmps18
    go_wp2
    go_ret
    exact ⟨ret_bool (inB_false (.inl (by omega))).symm, bal (Below.refl _ _) _⟩

set_option maxHeartbeats 400000 in
theorem rWord_any (v u : Value) (m : List (List Int)) (l : List Int) (w : World) (h : Rows w v m) (hv : validM m = true) (hu : Ints w u l) :
    Calls Tryd.prog 19 #[.agg #[v], u] w fun e w' => e = .returned (.bool (isWordM m l)) ∧ Below w.heap.size w w' := by
  have hr1 := h.alloc (.cells #[v] 24)
  have hu1 := hu.alloc (.cells #[v] 24)
  have hp := (valid_parts hv).2.2.2.1
  obtain ⟨A, cap, rfl, hml, hc⟩ := h
  obtain ⟨Au, capu, rfl, hlu, hcu⟩ := hu
  unfold big at hlu
  clear hc hcu
  by_cases hlen : l.length ≤ 40000
  · have hle : decide ((l.length : Int) ≤ 40000) = true := by simp; omega
    go_enter Tryd.func19, Tryd.ntmps19
    go_wp2_with fail
    refine (rLetters_any _ m _ hr1 hv).mono ?_
    rintro e w1 ⟨rfl, hb1⟩
    have hu2 := hu1.below hb1
    go_wp2_with fail
    refine (rBelow_any _ l _ _ hu2 (by omega)).mono ?_
    rintro e w2 ⟨rfl, rfl⟩
    go_wp2
    go_ret
    exact ⟨ret_bool (by simp [isWordM, hlen]), btr (bal (Below.refl _ _) _) hb1⟩
  · have hle : decide ((l.length : Int) ≤ 40000) = false := by simp; omega
    go_enter Tryd.func19, Tryd.ntmps19
    go_wp2
    go_ret
    exact ⟨ret_bool (by simp [isWordM, hlen]), bal (Below.refl _ _) _⟩

/-- Whether a list has a number. -/
def hasB (l : List Int) (n : Int) : Bool := l.any fun x => x == n
theorem any_snoc_take (p : Int → Bool) (l : List Int) (k : Nat) (hk : k < l.length) : (l.take (k + 1)).any p = ((l.take k).any p || p (l.getD k 0)) := by
  rw [List.take_succ_eq_append_getElem hk, List.any_append]
  simp [List.getD_eq_getElem?_getD, List.getElem?_eq_getElem hk]
theorem any_true_of (p : Int → Bool) (l : List Int) (k : Nat) (hk : k < l.length) (h : p (l.getD k 0) = true) : l.any p = true := by
  rw [List.any_eq_true]
  exact ⟨_, mem_getD hk, h⟩

set_option maxHeartbeats 400000 in
theorem rHas_any (v : Value) (l : List Int) (n : Int) (w : World) (h : Ints w v l) :
    Calls Tryd.prog 41 #[v, .int .i64 n] w fun e w' => e = .returned (.bool (hasB l n)) ∧ w = w' := by
  obtain ⟨A, cap, rfl, hl, hc⟩ := h
  unfold big at hl
  go_enter Tryd.func41, Tryd.ntmps41
  go_wp2
  go_loop [5] (fun i => ∃ k : Nat, k ≤ l.length ∧ i = .int .i64 k ∧ hasB (l.take k) n = false) (fun i => l.length - (intOf i).toNat)
  case atStart => exact ⟨0, Nat.zero_le _, rfl, rfl⟩
  case round =>
    obtain ⟨k, hk, rfl, hall⟩ := hrel
    by_cases hlt : k < l.length
    · obtain ⟨b, off, hA, hcell⟩ := hc k hlt
      have hs := any_snoc_take (fun x => x == n) l k hlt
      have hf := any_true_of (fun x => x == n) l k hlt
      have Ha := hid hall
      have Hs := hid hs
      have Hf := hid hf
      clear hs hf hall hc
      generalize hx : l.getD k 0 = x at *
      clear hx
      subst hA
      by_cases h0 : x = n
      · subst h0
        go_wp2
        go_ret
        exact ⟨ret_bool (Hf.out (by simp)).symm, rfl⟩
      · have d1 : (x == n) = false := by simp [h0]
        have H0 := hid h0
        clear h0
        go_wp2
        go_round
        case rel => exact ⟨k + 1, by omega, by go_num, by have h1 := Ha.out; unfold hasB at h1 ⊢; rw [Hs.out, h1]; simpa using H0.out⟩
        case measure => simp [intOf]; omega
    · go_wp2
      go_ret
      exact ⟨ret_bool (by rw [← hall, List.take_of_length_le (by omega)]), rfl⟩

theorem take_eq_succ {l m : List Int} {k : Nat} (hk : k < l.length) (hl : l.length = m.length) (h : l.take k = m.take k) (hx : l.getD k 0 = m.getD k 0) : l.take (k + 1) = m.take (k + 1) := by
  have h1 : k < m.length := by omega
  rw [List.take_succ_eq_append_getElem hk, List.take_succ_eq_append_getElem h1, h]
  have e1 : l.getD k 0 = l[k] := by simp [List.getD_eq_getElem?_getD, List.getElem?_eq_getElem hk]
  have e2 : m.getD k 0 = m[k] := by simp [List.getD_eq_getElem?_getD, List.getElem?_eq_getElem h1]
  rw [← e1, ← e2, hx]
theorem ne_of_getD {l m : List Int} {k : Nat} (hx : ¬ l.getD k 0 = m.getD k 0) : decide (l = m) = false := by
  rw [decide_eq_false_iff_not]
  intro h
  rw [h] at hx
  exact hx rfl

set_option maxHeartbeats 400000 in
theorem rSame_any (v u : Value) (l m : List Int) (w : World) (h : Ints w v l) (hu : Ints w u m) :
    Calls Tryd.prog 27 #[v, u] w fun e w' => e = .returned (.bool (decide (l = m))) ∧ Below w.heap.size w w' := by
  obtain ⟨A, cap, rfl, hl, hc⟩ := h
  obtain ⟨Au, capu, rfl, hlu, hcu⟩ := hu
  unfold big at hl hlu
  by_cases hlen : l.length = m.length
  · have hne : ((l.length : Int) != (m.length : Int)) = false := by simp; omega
    have Hlen := hid hlen
    clear hlen
    go_enter Tryd.func27, Tryd.ntmps27
    go_wp2
    go_loopw [5] (fun i wr => ∃ k : Nat, k ≤ l.length ∧ i = .int .i64 k ∧ l.take k = m.take k ∧ Below w.heap.size w wr) (fun i _ => l.length - (intOf i).toNat)
    case atStart => exact ⟨0, Nat.zero_le _, rfl, rfl, Below.refl _ _⟩
    case round =>
      obtain ⟨k, hk, rfl, htk, hB⟩ := hrel
      have Htk := hid htk
      clear htk
      by_cases hlt : k < l.length
      · have hle := Hlen.out
        obtain ⟨b, off, hA, hcell⟩ := hc k hlt
        obtain ⟨b', off', hA', hcell'⟩ := hcu k (by omega)
        subst hA
        subst hA'
        have c1 := (hB.cell (p := ⟨b, off + k, none⟩) (World.block_lt_of_cell? _ _ hcell)).trans hcell
        have c2 := (hB.cell (p := ⟨b', off' + k, none⟩) (World.block_lt_of_cell? _ _ hcell')).trans hcell'
        have Hs := hid (fun hx => take_eq_succ hlt Hlen.out Htk.out hx)
        have Hf := hid (fun hx => ne_of_getD (l := l) (m := m) (k := k) hx)
        have i1 : (k : Int) < l.length := by omega
        have i2 : (k : Int) < m.length := by omega
        clear hc hcu hcell hcell' hle
        generalize l.getD k 0 = x at *
        generalize m.getD k 0 = y at *
        by_cases hxy : x = y
        · have hd : (x != y) = false := by simp [hxy]
          have Hxy := hid hxy
          clear hxy
          go_wp2_with fail
          go_quiet (fail)
          go_wp2
          go_roundw
          case rel => exact ⟨k + 1, by omega, by go_num, Hs.out Hxy.out, bdr hB _⟩
          case measure => simp [intOf]; omega
        · have hd : (x != y) = true := by simp [hxy]
          have Hxy := hid hxy
          clear hxy
          go_wp2_with fail
          go_quiet (fail)
          go_wp2
          go_ret
          exact ⟨ret_bool (Hf.out Hxy.out).symm, bdr hB _⟩
      · go_wp2
        go_ret
        have h1 := Htk.out
        have h2 := Hlen.out
        rw [List.take_of_length_le (by omega), List.take_of_length_le (by omega)] at h1
        exact ⟨ret_bool (by simp [h1]), hB⟩
  · have hne : ((l.length : Int) != (m.length : Int)) = true := by simp; omega
    have Hlen := hid hlen
    clear hlen
    go_enter Tryd.func27, Tryd.ntmps27
    go_wp2
    go_ret
    exact ⟨ret_bool (by
      symm
      rw [decide_eq_false_iff_not]
      intro h
      exact Hlen.out (by rw [h])), Below.refl _ _⟩
end Go.Proofs.YtibaihchnbbokaaDoor
