/-
  The reference: whether an automaton is one, and where a word leads.
-/
import Derived.Test.YtibaihchnbbokaaDoorR1
namespace Go.Proofs.YtibaihchnbbokaaDoor
open Go.RowKit Go.Shelf

set_option maxHeartbeats 1000000 in
theorem rValid_any (v : Value) (m : List (List Int)) (w : World) (h : Rows w v m) :
    Calls Tryd.prog 17 #[.agg #[v]] w fun e w' => e = .returned (.bool (validM m)) ∧ Below w.heap.size w w' := by
  have hr := h
  obtain ⟨A, cap, rfl, hl, hc⟩ := h
  unfold big at hl
  by_cases h0 : m.length = 0
  · have d0 : ((m.length : Int) == 0) = true := by simp [h0]
    clear hc
    go_enter Tryd.func17, Tryd.ntmps17
    go_wp2
    go_ret
    exact ⟨ret_bool (by simp [validM, inB, h0]), bal (Below.refl _ _) _⟩
  have d0 : ((m.length : Int) == 0) = false := by rw [beq_eq_false_iff_ne]; omega
  by_cases h1 : 60 < m.length
  · have d1 : decide ((60 : Int) < m.length) = true := by simp; omega
    clear hc
    go_enter Tryd.func17, Tryd.ntmps17
    go_wp2
    go_ret
    have e1 : inB 1 60 m.length = false := inB_false (.inr (by omega))
    exact ⟨ret_bool (by simp [validM, e1]), bal (Below.refl _ _) _⟩
  have d1 : decide ((60 : Int) < m.length) = false := by simp; omega
  obtain ⟨b, off, r0, hA, hcell0, hr0⟩ := hc 0 (by omega)
  subst hA
  obtain ⟨A0, cap0, rfl, hl0, hc0⟩ := hr0
  unfold big at hl0
  rw [Nat.add_zero] at hcell0
  have hbl : b < w.heap.size := World.block_lt_of_cell? _ _ hcell0
  have hlet : (m.getD 0 []).length = letters m := rfl
  rw [hlet] at hcell0 hl0
  have hin : (0 : Int) < m.length := by omega
  clear hc0 hlet
  have Hc := hid hc
  clear hc
  by_cases h2 : letters m = 0
  · have d2 : ((letters m : Int) == 0) = true := by simp [h2]
    go_enter Tryd.func17, Tryd.ntmps17
    go_wp2
    go_ret
    exact ⟨ret_bool (by simp [validM, inB, h2]), bal (Below.refl _ _) _⟩
  have d2 : ((letters m : Int) == 0) = false := by simp; omega
  by_cases h3 : 6 < letters m
  · have d3 : decide ((6 : Int) < letters m) = true := by simp; omega
    go_enter Tryd.func17, Tryd.ntmps17
    go_wp2
    go_ret
    have e1 : inB 1 6 (letters m) = false := inB_false (.inr (by omega))
    exact ⟨ret_bool (by simp [validM, e1]), bal (Below.refl _ _) _⟩
  have d3 : decide ((6 : Int) < letters m) = false := by simp; omega
  have hv1 : validM m = m.all (rowOk m) := by
    have e1 : inB 1 60 m.length = true := inB_true (by omega)
    have e2 : inB 1 6 (letters m) = true := inB_true (by omega)
    simp [validM, e1, e2]
  have Hv := hid hv1
  clear hv1
  go_enter Tryd.func17, Tryd.ntmps17
  go_wp2
  go_loopw [4] (fun i wr => ∃ k : Nat, k ≤ m.length ∧ i = .int .i64 k ∧ (m.take k).all (rowOk m) = true ∧ Below w.heap.size w wr ∧ wr.cell? ⟨w.heap.size, 0, none⟩ = some (.slice (some ⟨b, off, none⟩) m.length cap)) (fun i _ => m.length - (intOf i).toNat)
  case atStart => exact ⟨0, Nat.zero_le _, rfl, rfl, bal (Below.refl _ _) _, by simp [go_sem]⟩
  case round =>
    obtain ⟨k, hk, rfl, hall, hB, hbox⟩ := hrel
    have hsz : w.heap.size < wr.heap.size := World.block_lt_of_cell? _ _ hbox
    by_cases hlt : k < m.length
    · obtain ⟨b', off', r, hA', hcell, hrow⟩ := Hc.out k hlt
      cases hA'
      have hrowc : wr.cell? ⟨b, off + k, none⟩ = some r := (hB.cell (p := ⟨b, off + k, none⟩) hbl).trans hcell
      have hrow0 : wr.cell? ⟨b, off, none⟩ = some (.slice A0 (letters m) cap0) := (hB.cell (p := ⟨b, off, none⟩) hbl).trans hcell0
      have hroww := hrow.below hB
      have Hs := hid (all_snoc_take (rowOk m) m [] k hlt)
      have Hf := hid (all_false_of (rowOk m) m [] k hlt)
      clear hrow hcell
      generalize m.getD k [] = row at *
      have hroww' := hroww
      obtain ⟨Ar, capr, rfl, hlr, hcr⟩ := hroww
      unfold big at hlr
      clear hcr
      have Ha := hid hall
      clear hall
      by_cases hle : row.length = letters m
      · have hne : ((row.length : Int) != (letters m : Int)) = false := by simp; omega
        have Hle := hid hle
        clear hle
        by_cases hst : row.all (inB 0 ((m.length : Int) - 1)) = true
        · go_wp2_with fail
          go_quiet ((go_at_call 42; exact Calls.quiet_of_same ((rBelow_bool _ row _ true _ (hroww'.drewN _) (by omega) hst).mono fun _ _ ⟨h1, h2⟩ => ⟨h1, h2.symm⟩)))
          go_wp2
          go_roundw
          case rel => exact ⟨k + 1, by omega, by go_num, by rw [Hs.out, Ha.out]; simp [rowOk, Hle.out, hst], bdr hB _, hbox⟩
          case measure => simp [intOf]; omega
        · have hst' : row.all (inB 0 ((m.length : Int) - 1)) = false := by simpa using hst
          clear hst
          go_wp2_with fail
          go_quiet ((go_at_call 42; exact Calls.quiet_of_same ((rBelow_bool _ row _ false _ (hroww'.drewN _) (by omega) hst').mono fun _ _ ⟨h1, h2⟩ => ⟨h1, h2.symm⟩)))
          go_wp2
          go_ret
          exact ⟨ret_bool (by rw [Hv.out, Hf.out]; simp [rowOk, hst']), bdr hB _⟩
      · have hne : ((row.length : Int) != (letters m : Int)) = true := by simp; omega
        have Hle := hid hle
        clear hle
        go_wp2_with fail
        go_quiet (fail)
        go_wp2
        go_ret
        exact ⟨ret_bool (by rw [Hv.out, Hf.out]; simp [rowOk, Hle.out]), bdr hB _⟩
    · go_wp2
      go_ret
      exact ⟨ret_bool (by rw [Hv.out, ← hall, List.take_of_length_le (by omega)]), hB⟩

set_option maxHeartbeats 1000000 in
theorem rRun_any (v u : Value) (m : List (List Int)) (s : Nat) (l : List Int) (w : World) (h : Rows w v m) (hu : Ints w u l) (hv : validM m = true) (hs : s < m.length) (hw : isWordM m l = true) :
    Calls Tryd.prog 20 #[.agg #[v], .int .i64 s, u] w fun e w' => e = .returned (.int .i64 (runM m s l : Nat)) ∧ Below w.heap.size w w' := by
  have hr := h
  have hur := hu
  obtain ⟨A, cap, rfl, hml, hc⟩ := h
  obtain ⟨Au, capu, rfl, hlu, hcu⟩ := hu
  unfold big at hlu hml
  have Hc := hid hc
  have Hcu := hid hcu
  clear hc hcu
  go_enter Tryd.func20, Tryd.ntmps20
  go_wp2
  go_loopw [1, 7] (fun s' i wr => ∃ k : Nat, k ≤ l.length ∧ i = .int .i64 k ∧ s' = .int .i64 (runM m s (l.take k)) ∧ Below w.heap.size w wr ∧ wr.cell? ⟨w.heap.size, 0, none⟩ = some (.slice A m.length cap)) (fun _ i _ => l.length - (intOf i).toNat)
  case atStart => exact ⟨0, Nat.zero_le _, rfl, rfl, bal (Below.refl _ _) _, by simp [go_sem]⟩
  case round =>
    obtain ⟨k, hk, rfl, rfl, hB, hbox⟩ := hrel
    by_cases hlt : k < l.length
    · have hl : l.all (inB 0 ((letters m : Int) - 1)) = true := by simp only [isWordM, Bool.and_eq_true] at hw; exact hw.2
      have hq := runM_lt hv (l.take k) s hs (all_take _ _ hl k)
      have hx := all_getD _ l 0 hl k hlt
      rw [inB_iff] at hx
      have Hs := hid (runM_snoc m s l k hlt)
      obtain ⟨bu, offu, hAu, hcell⟩ := Hcu.out k hlt
      subst hAu
      have hcu' := (hB.cell (p := ⟨bu, offu + k, none⟩) (World.block_lt_of_cell? _ _ hcell)).trans hcell
      generalize hqe : runM m s (l.take k) = q at *
      generalize l.getD k 0 = x at *
      obtain ⟨xn, rfl⟩ := Int.eq_ofNat_of_zero_le hx.1
      obtain ⟨b, off, r, hA, hrc, hrr⟩ := Hc.out q hq
      subst hA
      obtain ⟨Ar, capr, rfl, hlr, hcr⟩ := hrr
      have hn := nx_ok hv hq hx.1 (by omega)
      have hrl := ((valid_parts hv).2.2.2.2 q hq).1
      obtain ⟨br, offr, hAr, hrcell⟩ := hcr xn (by omega)
      subst hAr
      rw [Int.toNat_natCast] at hn
      rw [hn.2] at hrcell
      have hrc' := (hB.cell (p := ⟨b, off + q, none⟩) (World.block_lt_of_cell? _ _ hrc)).trans hrc
      have hrcell' := (hB.cell (p := ⟨br, offr + xn, none⟩) (World.block_lt_of_cell? _ _ hrcell)).trans hrcell
      rw [hrl] at hrc'
      have hin1 : (q : Int) < m.length := by omega
      have hin2 : (xn : Int) < letters m := by omega
      clear hcr hcell hrc hrcell hqe hl hr hur
      generalize nx m q (xn : Int) = y at *
      have Hn := hid hn.2
      clear hn hrl
      go_wp2_with fail
      go_quiet (fail)
      go_wp2
      go_roundw
      case rel => exact ⟨k + 1, by omega, by go_num, by rw [Hs.out], bdr hB _, hbox⟩
      case measure => simp [intOf]; omega
    · go_wp2
      go_ret
      exact ⟨ret_int (by rw [List.take_of_length_le (by omega)]), hB⟩
end Go.Proofs.YtibaihchnbbokaaDoor
