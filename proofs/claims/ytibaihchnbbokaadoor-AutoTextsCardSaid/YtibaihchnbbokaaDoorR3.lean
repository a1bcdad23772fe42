/-
  The reference: whether a list is a set of states.
-/
import Derived.Test.YtibaihchnbbokaaDoorR2
import Derived.Test.YtibaihchnbbokaaDoorM1
namespace Go.Proofs.YtibaihchnbbokaaDoor
open Go.RowKit Go.Shelf

theorem isSetM_long {m : List (List Int)} {l : List Int} (h : m.length < l.length) : isSetM m l = false := by
  cases hb : isSetM m l with
  | false => rfl
  | true => have := isSetM_len hb; omega

set_option maxHeartbeats 1000000 in
theorem rSet_any (v u : Value) (m : List (List Int)) (l : List Int) (w : World) (h : Rows w v m) (hu : Ints w u l) :
    Calls Tryd.prog 24 #[.agg #[v], u] w fun e w' => e = .returned (.bool (isSetM m l)) ∧ Below w.heap.size w w' := by
  have hu1 := hu.alloc (.cells #[v] 24)
  obtain ⟨A, cap, rfl, hml, hc⟩ := h
  obtain ⟨Au, capu, rfl, hlu, hcu⟩ := hu
  unfold big at hml hlu
  have Hcu := hid hcu
  clear hc hcu
  by_cases hlen : m.length < l.length
  · have d1 : decide (m.length < l.length) = true := by simp; omega
    have Hl := hid hlen
    clear hlen
    go_enter Tryd.func24, Tryd.ntmps24
    go_wp2
    go_ret
    exact ⟨ret_bool (isSetM_long Hl.out).symm, bal (Below.refl _ _) _⟩
  have d1 : decide (m.length < l.length) = false := by simp; omega
  by_cases hb : l.all (inB 0 ((m.length : Int) - 1)) = true
  · have Hb := hid hb
    go_enter Tryd.func24, Tryd.ntmps24
    go_wp2_with fail
    refine (rBelow_bool _ l _ true _ hu1 (by omega) hb).mono ?_
    rintro e w1 ⟨rfl, rfl⟩
    clear hb hu1
    go_wp2
    go_loopw [5] (fun i wr => ∃ k : Nat, (k = 0 ∨ k + 1 ≤ l.length) ∧ i = .int .i64 ((k : Int) + 1) ∧ incr l k = true ∧ Below w.heap.size w wr) (fun i _ => l.length - (intOf i).toNat)
    case atStart => exact ⟨0, .inl rfl, rfl, rfl, bal (Below.refl _ _) _⟩
    case round =>
      obtain ⟨k, hk, rfl, hinc, hB⟩ := hrel
      by_cases hlt : k + 1 < l.length
      · obtain ⟨bu, offu, hAu, hcell⟩ := Hcu.out k (by omega)
        obtain ⟨bu', offu', hAu', hcell'⟩ := Hcu.out (k + 1) hlt
        subst hAu
        cases hAu'
        have c1 := (hB.cell (p := ⟨bu, offu + k, none⟩) (World.block_lt_of_cell? _ _ hcell)).trans hcell
        have c2 := (hB.cell (p := ⟨bu, offu + (k + 1), none⟩) (World.block_lt_of_cell? _ _ hcell')).trans hcell'
        have Hs := hid (incr_succ l k)
        have Hf := hid (incr_false l (k := k) (n := l.length - 1) (by omega))
        have Hi := hid hinc
        clear hcell hcell' hinc
        generalize l.getD k 0 = x at *
        generalize l.getD (k + 1) 0 = y at *
        have i1 : (k : Int) + 1 < l.length := by omega
        have i2 : (k : Int) < l.length := by omega
        have i3 : IntKind.i64.wrap ((k : Int) + 1 - 1) = (k : Int) := by rw [IntKind.wrap_i64]; omega
        have i4 : ((k : Int) + 1).toNat = k + 1 := by omega
        by_cases hxy : x < y
        · have hd : decide (y ≤ x) = false := by simp; omega
          go_wp2_with fail
          go_quiet (fail)
          go_wp2
          go_roundw
          case rel => exact ⟨k + 1, .inr (by omega), by simp, by rw [Hs.out, Hi.out]; simp [hxy], bdr hB _⟩
          case measure => simp [intOf]; omega
        · have hd : decide (y ≤ x) = true := by simp; omega
          go_wp2_with fail
          go_quiet (fail)
          go_wp2
          go_ret
          exact ⟨ret_bool (by rw [isSetM, Hf.out hxy]; rfl), bdr hB _⟩
      · have hil : ¬ ((k : Int) + 1 < l.length) := by omega
        go_wp2
        go_ret
        refine ⟨ret_bool ?_, hB⟩
        have : l.length - 1 = k := by omega
        rw [isSetM, this, hinc, Hb.out]
        rfl
  · have hb' : l.all (inB 0 ((m.length : Int) - 1)) = false := by simpa using hb
    clear hb
    go_enter Tryd.func24, Tryd.ntmps24
    go_wp2_with fail
    refine (rBelow_bool _ l _ false _ hu1 (by omega) hb').mono ?_
    rintro e w1 ⟨rfl, rfl⟩
    go_wp2
    go_ret
    exact ⟨ret_bool (by rw [isSetM, hb', Bool.and_false]), bal (Below.refl _ _) _⟩

theorem rSet_bool (v u : Value) (m : List (List Int)) (l : List Int) (b : Bool) (w : World) (h : Rows w v m) (hu : Ints w u l) (hb : isSetM m l = b) :
    Calls Tryd.prog 24 #[.agg #[v], u] w fun e w' => e = .returned (.bool b) ∧ Below w.heap.size w w' := by
  subst hb; exact rSet_any v u m l w h hu
end Go.Proofs.YtibaihchnbbokaaDoor
