/-
  Texts that the proof of the law stands on: H2.
-/
import Derived.Test.YtiiiinoappjhdaaDoorSbB
namespace Go.Proofs.YtiiiinoappjhdaaDoor
open Go.RowKit Go.Shelf
set_option maxRecDepth 100000 in
set_option maxHeartbeats 2000000 in
theorem tValid_any (v : Value) (m : List (List Int)) (w : World) (h : Rows w v m) :
    Calls Tryd.prog 27 #[.agg #[v]] w fun e w' => e = .returned (.bool (validM m)) ∧ Below w.heap.size w w' := by
  obtain ⟨A, cap, rfl, hl, hc⟩ := h
  unfold big at hl
  by_cases h0 : m.length = 0
  · have d0 : decide ((m.length : Int) < 1) = true := by simp [h0]
    clear hc
    go_enter Tryd.func27, Tryd.ntmps27
    go_wp2
    go_ret
    exact ⟨ret_bool (by simp [validM, inB, h0]), bal (Below.refl _ _) _⟩
  have d0 : decide ((m.length : Int) < 1) = false := by simp; omega
  by_cases h1 : 60 < m.length
  · have d1 : decide ((60 : Int) < m.length) = true := by simp; omega
    clear hc
    go_enter Tryd.func27, Tryd.ntmps27
    go_wp2
    go_ret
    have e1 : inB 1 60 m.length = false := inB_false (.inr (by omega))
    exact ⟨ret_bool (by simp [validM, e1]), bal (Below.refl _ _) _⟩
  have d1 : decide ((60 : Int) < m.length) = false := by simp; omega
  obtain ⟨b, off, r0, hA, hcell0, hr0⟩ := hc 0 (by omega)
  subst hA
  obtain ⟨A0, cap0, rfl, hl0, hc0⟩ := hr0
  unfold big at hl0
  rw [Nat.add_zero] at hcell0
  have hbl : b < w.heap.size := World.block_lt_of_cell? _ _ hcell0
  have hlet : (m.getD 0 []).length = letters m := rfl
  rw [hlet] at hcell0 hl0
  have hin : (0 : Int) < m.length := by omega
  clear hc0 hlet
  have Hc := hid hc
  have hX := bal (Below.refl _ w) (.cells #[.slice (some ⟨b, off, none⟩) m.length cap] 24)
  have hbx := (Boxed.new w 24 (.slice (some ⟨b, off, none⟩) m.length cap)).cell
  have hcX := (hX.cell (p := ⟨b, off, none⟩) hbl).trans hcell0
  have Hv := hid (show (1 ≤ letters m ∧ letters m ≤ 6) → validM m = m.all (rowOk m) by
    rintro ⟨a1, a2⟩
    have e1 : inB 1 60 m.length = true := inB_true (by omega)
    have e2 : inB 1 6 (letters m) = true := inB_true (by omega)
    simp [validM, e1, e2])
  have Hn := hid (show ¬ (1 ≤ letters m ∧ letters m ≤ 6) → validM m = false by
    intro a
    have e2 : inB 1 6 (letters m) = false := by
      by_cases h3 : 1 ≤ letters m
      · exact inB_false (.inr (by omega))
      · exact inB_false (.inl (by omega))
    simp [validM, e2])
  clear hc
  go_enter Tryd.func27, Tryd.ntmps27
  go_wp2_with fail
  go_loopw [4] (fun i wr => ∃ k : Nat, k ≤ m.length ∧ i = .int .i64 k ∧ (m.take k).all (rowOk m) = true ∧ (0 < k → 1 ≤ letters m ∧ letters m ≤ 6) ∧ Below w.heap.size w wr ∧ wr.cell? ⟨w.heap.size, 0, none⟩ = some (.slice (some ⟨b, off, none⟩) m.length cap)) (fun i _ => m.length - (intOf i).toNat)
  case atStart => exact ⟨0, Nat.zero_le _, rfl, rfl, fun h => by omega, hX, hbx⟩
  case round =>
    clear hX hbx hcX
    obtain ⟨k, hk, rfl, hall, hlk, hB, hbox⟩ := hrel
    by_cases hlt : k < m.length
    · have hks : (k : Int) < m.length := by omega
      obtain ⟨b', off', r, hA', hcell, hrow⟩ := Hc.out k hlt
      cases hA'
      have hrowc : wr.cell? ⟨b, off + k, none⟩ = some r := (hB.cell (p := ⟨b, off + k, none⟩) hbl).trans hcell
      have Hs := hid (all_snoc_take (rowOk m) m [] k hlt)
      have Hf := hid (all_false_of (rowOk m) m [] k hlt)
      have Hall := hid hall
      clear hcell hall
      generalize m.getD k [] = row at *
      obtain ⟨Ar, capr, rfl, hlr, hcr⟩ := id hrow
      unfold big at hlr
      by_cases hlen : row.length = letters m
      · by_cases hlo : 1 ≤ letters m
        · by_cases hhi : letters m ≤ 6
          · have e1 : ((row.length : Int) != (letters m : Int)) = false := by simp [hlen]
            have e2 : decide ((letters m : Int) < 1) = false := by simp; omega
            have e3 : decide ((6 : Int) < letters m) = false := by simp; omega
            have Hcr := hid hcr
            have HL := hid hlen
            have HV := hid (Hv.out ⟨hlo, hhi⟩)
            have hok := hid (fun (hx : row.all (inB 0 ((m.length : Int) - 1)) = true) => show rowOk m row = true by simp [rowOk, hlen, hx])
            have hno := hid (fun (hx : row.all (inB 0 ((m.length : Int) - 1)) = false) => show rowOk m row = false by simp [rowOk, hx])
            clear hcr hlen hlk hrow
            obtain ⟨wk, rfl⟩ : ∃ wk : World, wk = wr := ⟨_, rfl⟩
            go_wp2_with fail
            go_loopw [5] (fun i wr => ∃ j : Nat, j ≤ letters m ∧ i = .int .i64 j ∧ (row.take j).all (inB 0 ((m.length : Int) - 1)) = true ∧ Below w.heap.size w wr ∧ wr.cell? ⟨w.heap.size, 0, none⟩ = some (.slice (some ⟨b, off, none⟩) m.length cap) ∧ wr.cell? ⟨b, off + k, none⟩ = some (.slice Ar row.length capr)) (fun i _ => letters m - (intOf i).toNat)
            case atStart => exact ⟨0, Nat.zero_le _, rfl, rfl, hB, hbox, hrowc⟩
            case round =>
              clear hB hbox hrowc
              obtain ⟨j, hj, rfl, hrall, hB, hbox, hrowc⟩ := hrel
              by_cases hjl : j < letters m
              · have hjs : (j : Int) < letters m := by omega
                have hjr : j < row.length := by have := HL.out; omega
                have hjr2 : (j : Int) < row.length := by omega
                obtain ⟨br, offr, hAr, hct⟩ := Hcr.out j hjr
                subst hAr
                have c3 := (hB.cell (p := ⟨br, offr + j, none⟩) (World.block_lt_of_cell? _ _ hct)).trans hct
                have hs2 := all_snoc_take (inB 0 ((m.length : Int) - 1)) row 0 j hjr
                rw [hrall, Bool.true_and] at hs2
                have Hs2 := hid hs2
                have Hf2 := hid (all_false_of (inB 0 ((m.length : Int) - 1)) row 0 j hjr)
                clear hct hs2 hrall
                generalize row.getD j 0 = x at *
                by_cases hx0 : x < 0
                · have f1 : decide (x < 0) = true := by simp [hx0]
                  have Hbad := hid (Hf.out (hno.out (Hf2.out (inB_false (.inl hx0)))))
                  go_wp2_with fail
                  go_quiet (fail)
                  go_wp2
                  go_ret
                  exact ⟨ret_bool (by rw [HV.out, Hbad.out]), bdr hB nq⟩
                · have f1 : decide (x < 0) = false := by simp; omega
                  by_cases hx1 : (m.length : Int) ≤ x
                  · have f2 : decide ((m.length : Int) ≤ x) = true := by simp [hx1]
                    have Hbad := hid (Hf.out (hno.out (Hf2.out (inB_false (.inr (by omega))))))
                    go_wp2_with fail
                    go_quiet (fail)
                    go_wp2
                    go_ret
                    exact ⟨ret_bool (by rw [HV.out, Hbad.out]), bdr hB nq⟩
                  · have f2 : decide ((m.length : Int) ≤ x) = false := by simp; omega
                    have hin2 := hid (show inB 0 ((m.length : Int) - 1) x = true from inB_true (by omega))
                    go_wp2_with fail
                    go_quiet (fail)
                    go_wp2
                    go_roundw
                    case rel => exact ⟨j + 1, by omega, by go_num, by rw [Hs2.out]; exact hin2.out, bdr hB nq, ((below_dr _ nq).cell (p := ⟨w.heap.size, 0, none⟩) (World.block_lt_of_cell? _ _ hbox)).trans hbox, ((below_dr _ nq).cell (p := ⟨b, off + k, none⟩) (World.block_lt_of_cell? _ _ hrowc)).trans hrowc⟩
                    case measure => simp [intOf]; omega
              · have hjs : ¬ (j : Int) < letters m := by omega
                have hrow2 : row.all (inB 0 ((m.length : Int) - 1)) = true := by
                  rw [List.take_of_length_le (by have := HL.out; omega)] at hrall
                  exact hrall
                have Hrow := hid (hok.out hrow2)
                clear hrall hrow2
                go_wp2_with fail
                go_roundw
                case rel => exact ⟨k + 1, by omega, by go_num, by rw [Hs.out, Hall.out, Hrow.out]; rfl, fun _ => ⟨hlo, hhi⟩, hB, hbox⟩
                case measure => simp [intOf]; omega
          · have e1 : ((row.length : Int) != (letters m : Int)) = false := by simp [hlen]
            have e2 : decide ((letters m : Int) < 1) = false := by simp; omega
            have e3 : decide ((6 : Int) < letters m) = true := by simp; omega
            have HN := hid (Hn.out (fun a => hhi a.2))
            clear hcr hlen
            go_wp2_with fail
            go_ret
            exact ⟨ret_bool HN.out.symm, hB⟩
        · have e1 : ((row.length : Int) != (letters m : Int)) = false := by simp [hlen]
          have e2 : decide ((letters m : Int) < 1) = true := by simp; omega
          have HN := hid (Hn.out (fun a => hlo a.1))
          clear hcr hlen
          go_wp2_with fail
          go_ret
          exact ⟨ret_bool HN.out.symm, hB⟩
      · have e1 : ((row.length : Int) != (letters m : Int)) = true := by simp; omega
        have hbad : rowOk m row = false := by simp [rowOk, hlen]
        have HN : Hid (validM m = false) := hid (by
          by_cases hh : 1 ≤ letters m ∧ letters m ≤ 6
          · rw [Hv.out hh]; exact Hf.out hbad
          · exact Hn.out hh)
        clear hcr hlen hbad
        go_wp2_with fail
        go_ret
        exact ⟨ret_bool HN.out.symm, hB⟩
    · obtain rfl : k = m.length := by omega
      have hks : ¬ ((m.length : Nat) : Int) < m.length := by omega
      have hh := hall
      rw [List.take_length] at hh
      have HV := hid ((Hv.out (hlk (by omega))).trans hh)
      clear hall hh
      go_wp2_with fail
      go_ret
      exact ⟨ret_bool HV.out.symm, hB⟩
theorem tValid_bool (v : Value) (m : List (List Int)) (b : Bool) (w : World) (h : Rows w v m) (hb : validM m = b) :
    Calls Tryd.prog 27 #[.agg #[v]] w fun e w' => e = .returned (.bool b) ∧ Below w.heap.size w w' := by
  subst hb; exact tValid_any v m w h
end Go.Proofs.YtiiiinoappjhdaaDoor
