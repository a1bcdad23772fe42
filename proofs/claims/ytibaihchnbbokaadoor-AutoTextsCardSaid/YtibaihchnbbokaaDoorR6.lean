/-
  The reference: whether numbers are names, and words.
-/
import Derived.Test.YtibaihchnbbokaaDoorR5
import Derived.Test.YtibaihchnbbokaaDoorL1
namespace Go.Proofs.YtibaihchnbbokaaDoor
open Go.RowKit Go.Shelf

def namesM (l : List Int) (n : Nat) : Bool := decide (l.length = n) && (List.range n).all fun i => hasB l i

/-- What holds as many as there are holds no other. -/
theorem no_other {α : Type} [BEq α] [LawfulBEq α] : ∀ (s l : List α), s.Nodup → (∀ x ∈ s, x ∈ l) → l.length = s.length → ∀ x ∈ l, x ∈ s
  | [], l, _, _, hl => by
    have : l = [] := List.eq_nil_of_length_eq_zero hl
    subst this
    intro x hx
    cases hx
  | a :: s, l, hn, hs, hl => by
    intro x hx
    have ha := hs a (by simp)
    have hn' := List.nodup_cons.1 hn
    by_cases e : x = a
    · simp [e]
    · refine List.mem_cons_of_mem _ (no_other s (l.erase a) hn'.2 (fun y hy => ?_) ?_ x ?_)
      · have hya : y ≠ a := fun e => hn'.1 (e ▸ hy)
        exact (List.mem_erase_of_ne hya).2 (hs y (List.mem_cons_of_mem _ hy))
      · rw [List.length_erase_of_mem ha, hl]; simp
      · exact (List.mem_erase_of_ne e).2 hx

theorem hasB_mem {l : List Int} {n : Int} : hasB l n = true ↔ n ∈ l := by
  rw [hasB, List.any_eq_true]
  constructor
  · rintro ⟨x, hx, e⟩
    rw [beq_iff_eq] at e
    exact e ▸ hx
  · intro h
    exact ⟨n, h, by simp⟩

theorem names_bound {l : List Int} {n : Nat} (h : namesM l n = true) : ∀ x ∈ l, 0 ≤ x ∧ x < (n : Int) := by
  rw [namesM, Bool.and_eq_true, decide_eq_true_eq, List.all_eq_true] at h
  intro x hx
  have hs : ∀ y ∈ (List.range n).map fun i : Nat => (i : Int), y ∈ l := by
    intro y hy
    obtain ⟨i, hi, rfl⟩ := List.mem_map.1 hy
    exact hasB_mem.1 (h.2 i hi)
  have hnd : ((List.range n).map fun i : Nat => (i : Int)).Nodup := by
    rw [List.nodup_iff_pairwise_ne, List.pairwise_map]
    exact List.pairwise_lt_range.imp (fun hab e => by omega)
  obtain ⟨i, hi, rfl⟩ := List.mem_map.1 (no_other _ l hnd hs (by simp [h.1]) x hx)
  have := List.mem_range.1 hi
  omega

theorem hasB_bit {l : List Int} (h : ∀ x ∈ l, 0 ≤ x) (t : Nat) : hasB l t = (ofList l).testBit t := by
  rw [ofList_testBit, hasB, Bool.eq_iff_iff, List.any_eq_true, List.any_eq_true]
  constructor
  · rintro ⟨x, hx, e⟩
    exact ⟨x, hx, by rw [beq_iff_eq] at e; simp [e]⟩
  · rintro ⟨x, hx, e⟩
    have h1 := of_decide_eq_true e
    have h2 := h x hx
    exact ⟨x, hx, by rw [beq_iff_eq]; omega⟩

/-- The program's test on names. -/
theorem names_iff {l : List Int} {n : Nat} (hn : n ≤ 64) : namesM l n = (decide (l.length = n) && (l.all (inB 0 ((n : Int) - 1)) && decide (ofList l = 2 ^ n - 1))) := by
  rw [Bool.eq_iff_iff]
  constructor
  · intro h
    have hb := names_bound h
    have h' := h
    rw [namesM, Bool.and_eq_true, decide_eq_true_eq, List.all_eq_true] at h'
    rw [Bool.and_eq_true, Bool.and_eq_true, decide_eq_true_eq, decide_eq_true_eq, List.all_eq_true]
    refine ⟨h'.1, fun x hx => inB_true (by have := hb x hx; omega), ?_⟩
    apply Nat.eq_of_testBit_eq
    intro i
    rw [testBit_below, ← hasB_bit (fun x hx => (hb x hx).1)]
    by_cases hi : i < n
    · rw [h'.2 i (List.mem_range.2 hi)]; simp [hi]
    · cases hc : hasB l i with
      | true => have := (hb _ (hasB_mem.1 hc)).2; omega
      | false => simp [hi]
  · intro h
    rw [Bool.and_eq_true, Bool.and_eq_true, decide_eq_true_eq, decide_eq_true_eq, List.all_eq_true] at h
    rw [namesM, Bool.and_eq_true, decide_eq_true_eq, List.all_eq_true]
    refine ⟨h.1, fun i hi => ?_⟩
    have hi' := List.mem_range.1 hi
    rw [hasB_bit (fun x hx => by have := (inB_iff.1 (h.2.1 x hx)).1; omega), h.2.2, testBit_below]
    simp [hi']

set_option maxHeartbeats 1000000 in
theorem rNames_any (v : Value) (l : List Int) (n : Nat) (w : World) (hn : n ≤ 60) (h : Ints w v l) :
    Calls Tryd.prog 30 #[v, .int .i64 n] w fun e w' => e = .returned (.bool (namesM l n)) ∧ w = w' := by
  obtain ⟨A, cap, rfl, hl, _⟩ := id h
  by_cases hlen : l.length = n
  · have d0 : ((l.length : Int) != (n : Int)) = false := by simp; omega
    have Hlen := hid hlen
    clear hlen
    go_enter Tryd.func30, Tryd.ntmps30
    go_wp2
    go_loop [5] (fun i => ∃ k : Nat, k ≤ n ∧ i = .int .i64 k ∧ (List.range k).all (fun i => hasB l i) = true) (fun i => n - (intOf i).toNat)
    case atStart => exact ⟨0, Nat.zero_le _, rfl, rfl⟩
    case round =>
      obtain ⟨k, hk, rfl, hall⟩ := hrel
      by_cases hlt : k < n
      · have hks : (k : Int) < n := by omega
        have Ha := hid hall
        clear hall
        by_cases hb : hasB l k = true
        · go_wp2_with fail
          refine (hasB_bool _ l k true _ h hb).mono ?_
          rintro e w2 ⟨rfl, rfl⟩
          go_wp2
          go_round
          case rel => exact ⟨k + 1, by omega, by go_num, by rw [List.range_succ, List.all_append, Ha.out]; simp [hb]⟩
          case measure => simp [intOf]; omega
        · have hb' : hasB l k = false := by simpa using hb
          go_wp2_with fail
          refine (hasB_bool _ l k false _ h hb').mono ?_
          rintro e w2 ⟨rfl, rfl⟩
          go_wp2
          go_ret
          refine ⟨ret_bool ?_, rfl⟩
          rw [namesM]
          have : (List.range n).all (fun i => hasB l i) = false := by
            rw [List.all_eq_false]
            exact ⟨k, List.mem_range.2 hlt, by simp [hb']⟩
          rw [this, Bool.and_false]
      · obtain rfl : k = n := by omega
        go_wp2
        go_ret
        exact ⟨ret_bool (by rw [namesM, hall, decide_eq_true Hlen.out]; rfl), rfl⟩
  · have d0 : ((l.length : Int) != (n : Int)) = true := by simp; omega
    have Hlen := hid hlen
    clear hlen
    go_enter Tryd.func30, Tryd.ntmps30
    go_wp2
    go_ret
    exact ⟨ret_bool (by rw [namesM, decide_eq_false Hlen.out]; rfl), rfl⟩

def wordsM (m : List (List Int)) (ws : List (List Int)) : Bool := inB 1 6 ws.length && ws.all (isWordM m)

set_option maxHeartbeats 2000000 in
theorem rWords_any (v u : Value) (m ws : List (List Int)) (w : World) (h : Rows w v m) (hv : validM m = true) (hu : Rows w u ws) :
    Calls Tryd.prog 32 #[.agg #[v], u] w fun e w' => e = .returned (.bool (wordsM m ws)) ∧ Below w.heap.size w w' := by
  have hb0 := bal (Below.refl _ w) (.cells #[v] 24)
  obtain ⟨A, cap, rfl, _⟩ := id h
  obtain ⟨Au, capu, rfl, hlu, hcu⟩ := id hu
  unfold big at hlu
  have hbx : (w.alloc (.cells #[.slice A m.length cap] 24)).cell? ⟨w.heap.size, 0, none⟩ = some (.slice A m.length cap) := by simp
  by_cases h1 : ws.length < 1
  · have d0 : decide ((ws.length : Int) < 1) = true := by simp; omega
    have e1 : inB 1 6 ws.length = false := inB_false (.inl (by omega))
    clear h1
    go_enter Tryd.func32, Tryd.ntmps32
    go_wp2
    go_ret
    exact ⟨ret_bool (by rw [wordsM, e1]; rfl), hb0⟩
  have d0 : decide ((ws.length : Int) < 1) = false := by simp; omega
  by_cases h2 : 6 < ws.length
  · have d1 : decide ((6 : Int) < ws.length) = true := by simp; omega
    have e1 : inB 1 6 ws.length = false := inB_false (.inr (by omega))
    clear h1 h2
    go_enter Tryd.func32, Tryd.ntmps32
    go_wp2
    go_ret
    exact ⟨ret_bool (by rw [wordsM, e1]; rfl), hb0⟩
  have d1 : decide ((6 : Int) < ws.length) = false := by simp; omega
  have e1 : inB 1 6 ws.length = true := inB_true (by omega)
  have Hcu := hid hcu
  have E1 := hid e1
  clear h1 h2 hcu e1
  go_enter Tryd.func32, Tryd.ntmps32
  go_wp2
  generalize hX : w.alloc (.cells #[.slice A m.length cap] 24) = X at *
  have hlt0 : w.heap.size < X.heap.size := World.block_lt_of_cell? _ _ hbx
  clear hX
  go_loopw [5] (fun i wr => ∃ k : Nat, k ≤ ws.length ∧ i = .int .i64 k ∧ (ws.take k).all (isWordM m) = true ∧ Below X.heap.size X wr) (fun i _ => ws.length - (intOf i).toNat)
  case atStart => exact ⟨0, Nat.zero_le _, rfl, rfl, Below.refl _ _⟩
  case round =>
    obtain ⟨k, hk, rfl, hall, hB⟩ := hrel
    have hbr := (hB.cell (p := ⟨w.heap.size, 0, none⟩) hlt0).trans hbx
    by_cases hlt : k < ws.length
    · obtain ⟨b, off, r, hA, hcell, hrow⟩ := Hcu.out k hlt
      subst hA
      have hBw := btr hb0 hB
      have hcr := (hBw.cell (p := ⟨b, off + k, none⟩) (World.block_lt_of_cell? _ _ hcell)).trans hcell
      have hroww := hrow.below hBw
      have hrr := h.below hBw
      have hks : (k : Int) < ws.length := by omega
      have hlw : w.heap.size < wr.heap.size := World.block_lt_of_cell? _ _ hbr
      have Hs := hid (all_snoc_take (isWordM m) ws [] k hlt)
      have Hf := hid (all_false_of (isWordM m) ws [] k hlt)
      have Ha := hid hall
      clear hall hcell hrow
      generalize ws.getD k [] = q at *
      obtain ⟨Aq, capq, rfl, _⟩ := id hroww
      cases hq : isWordM m q with
      | true =>
        go_wp2_with fail
        go_region_with (go_at_call 19; refine (rWord_bool _ _ m q true _ (hrr.below (by first | exact Below.refl _ _ | assumption | exact Below.drew (by first | exact Below.refl _ _ | assumption))) hv (hroww.below (by first | exact Below.refl _ _ | assumption | exact Below.drew (by first | exact Below.refl _ _ | assumption))) hq).mono ?_; rintro e wA ⟨rfl, hA⟩; have hBA : Below wr.heap.size wr wA := btr (by first | exact Below.refl _ _ | assumption | exact Below.drew (by first | exact Below.refl _ _ | assumption)) hA)
        all_goals go_wp2
        all_goals go_roundw
        all_goals first
          | exact ⟨k + 1, by omega, by go_num, by rw [Hs.out, Ha.out, hq]; rfl, btr hB (by first | assumption | exact Below.drew (by assumption))⟩
          | (simp [intOf]; omega)
      | false =>
        go_wp2_with fail
        go_region_with (go_at_call 19; refine (rWord_bool _ _ m q false _ (hrr.below (by first | exact Below.refl _ _ | assumption | exact Below.drew (by first | exact Below.refl _ _ | assumption))) hv (hroww.below (by first | exact Below.refl _ _ | assumption | exact Below.drew (by first | exact Below.refl _ _ | assumption))) hq).mono ?_; rintro e wA ⟨rfl, hA⟩; have hBA : Below wr.heap.size wr wA := btr (by first | exact Below.refl _ _ | assumption | exact Below.drew (by first | exact Below.refl _ _ | assumption)) hA)
        all_goals go_wp2
        all_goals go_ret
        all_goals exact ⟨ret_bool (by rw [wordsM, E1.out, Hf.out hq]; rfl), btr hb0 (btr hB (by first | assumption | exact Below.drew (by assumption)))⟩
    · go_wp2
      go_ret
      rw [List.take_of_length_le (by omega)] at hall
      exact ⟨ret_bool (by rw [wordsM, E1.out, hall]; rfl), btr hb0 hB⟩
end Go.Proofs.YtibaihchnbbokaaDoor
