/-
  The checks of automata, states and words.
-/
import Derived.Test.YtibaihchnbbokaaDoorRep
namespace Go.Proofs.YtibaihchnbbokaaDoor
open Go.RowKit

def inB (lo hi : Int) (n : Int) : Bool := decide (lo ≤ n) && decide (n ≤ hi)
theorem inB_true {lo hi n : Int} (h : lo ≤ n ∧ n ≤ hi) : inB lo hi n = true := by simp [inB, h]
theorem inB_false {lo hi n : Int} (h : n < lo ∨ hi < n) : inB lo hi n = false := by
  unfold inB; rcases h with h | h <;> simp <;> omega

set_option maxHeartbeats 400000 in
theorem between_any (lo hi : Int) (v : Value) (l : List Int) (w : World) (h : Ints w v l) :
    Calls Tryd.prog 59 #[.int .i64 lo, .int .i64 hi, v] w fun e w' => e = .returned (.bool (l.all (inB lo hi))) ∧ w = w' := by
  obtain ⟨A, cap, rfl, hl, hc⟩ := h
  unfold big at hl
  go_enter Tryd.func59, Tryd.ntmps59
  go_wp2
  go_loop [11] (fun i => ∃ k : Nat, k ≤ l.length ∧ i = .int .i64 k ∧ (l.take k).all (inB lo hi) = true) (fun i => l.length - (intOf i).toNat)
  case atStart => exact ⟨0, Nat.zero_le _, rfl, rfl⟩
  case round =>
    obtain ⟨k, hk, rfl, hall⟩ := hrel
    by_cases hlt : k < l.length
    · obtain ⟨b, off, hA, hcell⟩ := hc k hlt
      have hs := all_snoc_take (inB lo hi) l 0 k hlt
      rw [hall, Bool.true_and] at hs
      have hf := all_false_of (inB lo hi) l 0 k hlt
      have Hs := hid hs
      have Hf := hid hf
      clear hs hf hall hc
      generalize hn : l.getD k 0 = n at *
      clear hn
      subst hA
      go_wp2
      · go_ret
        exact ⟨ret_bool (Hf.out (inB_false ‹_›)).symm, rfl⟩
      · go_round
        case rel => exact ⟨k + 1, by omega, by go_num, by rw [Hs.out]; exact inB_true ‹_›⟩
        case measure => simp [intOf]; omega
      · go_ret
        exact ⟨ret_bool (Hf.out (inB_false (.inl ‹_›))).symm, rfl⟩
    · go_wp2
      go_ret
      exact ⟨ret_bool (by rw [← hall, List.take_of_length_le (by omega)]), rfl⟩

/-- How many letters. -/
def letters (m : List (List Int)) : Nat := (m.getD 0 []).length
def rowOk (m : List (List Int)) (r : List Int) : Bool := decide (r.length = letters m) && r.all (inB 0 ((m.length : Int) - 1))
def validM (m : List (List Int)) : Bool :=
  inB 1 60 m.length && (inB 1 6 (letters m) && m.all (rowOk m))

theorem between_one (lo hi n : Int) (b : Bool) (v : Value) (w : World) (h : Ints w v [n]) (hb : inB lo hi n = b) :
    Calls Tryd.prog 59 #[.int .i64 lo, .int .i64 hi, v] w fun e w' => e = .returned (.bool b) ∧ w = w' := by
  have := between_any lo hi v [n] w h
  simpa [hb] using this

set_option maxHeartbeats 400000 in
theorem areStates_any (v u : Value) (m : List (List Int)) (l : List Int) (w : World) (h : Rows w v m) (hu : Ints w u l) :
    Calls Tryd.prog 56 #[.agg #[v], u] w fun e w' => e = .returned (.bool (l.all (inB 0 ((m.length : Int) - 1)))) ∧ Below w.heap.size w w' := by
  have hu1 := hu.alloc (.cells #[v] 24)
  obtain ⟨A, cap, rfl, hl, hc⟩ := h
  unfold big at hl
  clear hc
  go_enter Tryd.func56, Tryd.ntmps56
  go_wp2_with (go_at_call 59; refine (between_any _ _ _ l _ hu1).mono ?_; rintro e w' ⟨rfl, rfl⟩)
  go_ret
  exact ⟨rfl, (Below.refl _ _).alloc (Nat.le_refl _) _⟩

theorem areStates_bool (v u : Value) (m : List (List Int)) (l : List Int) (b : Bool) (w : World) (h : Rows w v m) (hu : Ints w u l) (hb : l.all (inB 0 ((m.length : Int) - 1)) = b) :
    Calls Tryd.prog 56 #[.agg #[v], u] w fun e w' => e = .returned (.bool b) ∧ Below w.heap.size w w' := by
  subst hb; exact areStates_any v u m l w h hu

set_option maxHeartbeats 400000 in
theorem Valid_any (v : Value) (m : List (List Int)) (w : World) (h : Rows w v m) :
    Calls Tryd.prog 16 #[.agg #[v]] w fun e w' => e = .returned (.bool (validM m)) ∧ Below w.heap.size w w' := by
  have hr := h
  obtain ⟨A, cap, rfl, hl, hc⟩ := h
  unfold big at hl
  by_cases h1 : inB 1 60 m.length = true
  · have hpos : 0 < m.length := by simp [inB] at h1; omega
    obtain ⟨b, off, r0, hA, hcell0, hr0⟩ := hc 0 hpos
    subst hA
    obtain ⟨A0, cap0, rfl, hl0, hc0⟩ := hr0
    unfold big at hl0
    rw [Nat.add_zero] at hcell0
    have hbl : b < w.heap.size := World.block_lt_of_cell? _ _ hcell0
    have hlet : (m.getD 0 []).length = letters m := rfl
    rw [hlet] at hcell0 hl0
    clear hc0
    by_cases h2 : inB 1 6 (letters m) = true
    · have Hc := hid hc
      clear hc
      have hin : (0 : Int) < m.length := by omega
      go_enter Tryd.func16, Tryd.ntmps16
      go_wp2_with fail
      refine (between_one 1 60 m.length true _ _ (Ints.one' _ _ _ _ (by simp)) h1).mono ?_
      rintro e w1 ⟨rfl, rfl⟩
      go_wp2_with fail
      refine (between_one 1 6 (letters m) true _ _ (Ints.one' _ _ _ _ (by simp)) h2).mono ?_
      rintro e w1 ⟨rfl, rfl⟩
      go_wp2_with fail
      go_loopw [24] (fun i wr => ∃ k : Nat, k ≤ m.length ∧ i = .int .i64 k ∧ (m.take k).all (rowOk m) = true ∧ Below w.heap.size w wr ∧ wr.cell? ⟨w.heap.size, 0, none⟩ = some (.slice (some ⟨b, off, none⟩) m.length cap))
        (fun i _ => m.length - (intOf i).toNat)
      case atStart => exact ⟨0, Nat.zero_le _, rfl, rfl, bal (bal (bal (Below.refl _ _) _) _) _, by simp [go_sem]⟩
      case round =>
        obtain ⟨k, hk, rfl, hall, hB, hbox⟩ := hrel
        have hsz : w.heap.size < wr.heap.size := World.block_lt_of_cell? _ _ hbox
        by_cases hlt : k < m.length
        · obtain ⟨b', off', r, hA', hcell, hrow⟩ := Hc.out k hlt
          cases hA'
          have hrowc : wr.cell? ⟨b, off + k, none⟩ = some r := (hB.cell (p := ⟨b, off + k, none⟩) hbl).trans hcell
          have hroww := hrow.below hB
          have hrw := hr.below hB
          have Hs := hid (all_snoc_take (rowOk m) m [] k hlt)
          have Hf := hid (all_false_of (rowOk m) m [] k hlt)
          clear hrow hcell hcell0
          generalize m.getD k [] = row at *
          have hroww' := hroww
          obtain ⟨Ar, capr, rfl, hlr, hcr⟩ := hroww
          unfold big at hlr
          clear hcr
          have hv1 : validM m = m.all (rowOk m) := by simp [validM, h1, h2]
          have Hv := hid hv1
          have Ha := hid hall
          clear hv1 hall
          by_cases hle : row.length = letters m
          · have hne : ((row.length : Int) != (letters m : Int)) = false := by simp; omega
            by_cases hst : row.all (inB 0 ((m.length : Int) - 1)) = true
            · have Hle := hid hle
              clear hle
              go_wp2_with fail
              refine (areStates_bool _ _ m row true _ hrw hroww' hst).mono ?_
              rintro e w1 ⟨rfl, hb1⟩
              have hbx : w1.cell? ⟨w.heap.size, 0, none⟩ = some (.slice (some ⟨b, off, none⟩) m.length cap) := (hb1.cell (p := ⟨w.heap.size, 0, none⟩) hsz).trans hbox
              go_wp2
              go_roundw
              case rel => exact ⟨k + 1, by omega, by go_num, by rw [Hs.out, Ha.out]; simp [rowOk, Hle.out, hst], btr hB hb1, hbx⟩
              case measure => simp [intOf]; omega
            · have hst' : row.all (inB 0 ((m.length : Int) - 1)) = false := by simpa using hst
              have Hle := hid hle
              clear hle hst
              go_wp2_with fail
              refine (areStates_bool _ _ m row false _ hrw hroww' hst').mono ?_
              rintro e w1 ⟨rfl, hb1⟩
              go_wp2
              go_ret
              exact ⟨ret_bool (by rw [Hv.out, Hf.out]; simp [rowOk, hst']), btr hB hb1⟩
          · have hne : ((row.length : Int) != (letters m : Int)) = true := by simp; omega
            have Hle := hid hle
            clear hle
            go_wp2
            go_ret
            exact ⟨ret_bool (by rw [Hv.out, Hf.out]; simp [rowOk, Hle.out]), hB⟩
        · go_wp2
          go_ret
          exact ⟨ret_bool (by rw [← hall, List.take_of_length_le (by omega)]; simp [validM, h1, h2]), hB⟩
    · have h2' : inB 1 6 (letters m) = false := by simpa using h2
      have Hc := hid hc
      clear hc
      have hin : (0 : Int) < m.length := by omega
      go_enter Tryd.func16, Tryd.ntmps16
      go_wp2_with fail
      refine (between_one 1 60 m.length true _ _ (Ints.one' _ _ _ _ (by simp)) h1).mono ?_
      rintro e w1 ⟨rfl, rfl⟩
      go_wp2_with fail
      refine (between_one 1 6 (letters m) false _ _ (Ints.one' _ _ _ _ (by simp)) h2').mono ?_
      rintro e w1 ⟨rfl, rfl⟩
      go_wp2
      go_ret
      exact ⟨ret_bool (by simp [validM, h2']), bal (bal (bal (Below.refl _ _) _) _) _⟩
  · have h1' : inB 1 60 m.length = false := by simpa using h1
    clear hc
    go_enter Tryd.func16, Tryd.ntmps16
    go_wp2_with fail
    refine (between_one 1 60 m.length false _ _ (Ints.one' _ _ _ _ (by simp)) h1').mono ?_
    rintro e w1 ⟨rfl, rfl⟩
    go_wp2
    go_ret
    exact ⟨ret_bool (by simp [validM, h1']), bal (bal (Below.refl _ _) _) _⟩
end Go.Proofs.YtibaihchnbbokaaDoor
