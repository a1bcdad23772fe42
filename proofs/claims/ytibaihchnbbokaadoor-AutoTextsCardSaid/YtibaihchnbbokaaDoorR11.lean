/-
  The reference: the string of an automaton, number by number.
-/
import Derived.Test.YtibaihchnbbokaaDoorR10
namespace Go.Proofs.YtibaihchnbbokaaDoor
open Go.RowKit Go.Shelf

/-- What stands ahead of the next piece. -/
def preJ (c : UInt8) (xs : List (List UInt8)) : List UInt8 := if xs = [] then [] else Lib.join xs [c] ++ [c]
theorem join_snoc (c : UInt8) (y : List UInt8) : ∀ (xs : List (List UInt8)), xs ≠ [] → Lib.join (xs ++ [y]) [c] = Lib.join xs [c] ++ c :: y
  | [], h => absurd rfl h
  | [x], _ => by rw [List.cons_append, List.nil_append, join_two, Lib.join_one, Lib.join_one]
  | x :: z :: r, _ => by
    have := join_snoc c y (z :: r) (by simp)
    rw [List.cons_append, List.cons_append, join_two, join_two]
    rw [List.cons_append] at this
    rw [this]
    simp
theorem preJ_snoc (c : UInt8) (xs : List (List UInt8)) (y : List UInt8) : preJ c xs ++ y = Lib.join (xs ++ [y]) [c] := by
  unfold preJ
  by_cases h : xs = []
  · subst h; simp [Lib.join_one]
  · rw [if_neg h, join_snoc c y xs h]; simp
theorem preJ_len (c : UInt8) (k : Nat) (xs : List (List UInt8)) (h : ∀ x ∈ xs, x.length ≤ k) : (preJ c xs).length ≤ xs.length * (k + 1) := by
  unfold preJ
  by_cases e : xs = []
  · subst e; simp
  · rw [if_neg e]
    have := join_lt c k xs e h
    simp; omega
theorem take_map_succ {α β : Type} (f : α → β) (l : List α) (d : α) (k : Nat) (h : k < l.length) : (l.take (k + 1)).map f = (l.take k).map f ++ [f (l.getD k d)] := by
  rw [List.take_succ_eq_append_getElem h, List.map_append]
  simp only [List.map_cons, List.map_nil, List.getD_eq_getElem?_getD, List.getElem?_eq_getElem h, Option.getD_some]

theorem str_addc {w : World} (a : List UInt8) (c : UInt8) (h : a.length ≤ 90000) : (Op.stringOp .add (strB a) ⟨#[c]⟩).run Tryd.prog w = .ok (.string (strB (a ++ [c]))) w := str_add a [c] (by simp; omega)

set_option maxRecDepth 100000 in
set_option maxHeartbeats 2000000 in
theorem rText_any (v : Value) (m : List (List Int)) (w : World) (h : Rows w v m) (hv : validM m = true) :
    Calls Tryd.prog 37 #[.agg #[v]] w fun e w' => e = .returned (.string (strB (textM m))) ∧ Below w.heap.size w w' := by
  obtain ⟨A, cap, rfl, _, hcm⟩ := id h
  obtain ⟨p1, p2, p3, p4, p5⟩ := valid_parts hv
  have hvr := valid_row hv
  have Hcm := hid hcm
  have Hvr := hid hvr
  clear hcm hvr p5
  have hX := bal (Below.refl _ w) (.cells #[.slice A m.length cap] 24)
  have hbx : (w.alloc (.cells #[.slice A m.length cap] 24)).cell? ⟨w.heap.size, 0, none⟩ = some (.slice A m.length cap) := by simp
  have Hx := hid hX
  go_enter Tryd.func37, Tryd.ntmps37
  go_wp2_with fail
  generalize hWX : w.alloc (.cells #[.slice A m.length cap] 24) = X at *
  clear hX hWX
  have hX := Hx.out
  have hlt0 : w.heap.size < X.heap.size := World.block_lt_of_cell? _ _ hbx
  go_loopw [3, 4] (fun s i wr => ∃ k : Nat, k ≤ m.length ∧ i = .int .i64 k ∧ s = .string (strB (Lib.join ((m.take k).map rowText) [32])) ∧ Below X.heap.size X wr) (fun _ i _ => m.length - (intOf i).toNat)
  case atStart => exact ⟨0, Nat.zero_le _, rfl, rfl, Below.refl _ _⟩
  case round =>
    obtain ⟨k, hk, rfl, rfl, hB⟩ := hrel
    have hbr := (hB.cell (p := ⟨w.heap.size, 0, none⟩) hlt0).trans hbx
    by_cases hlt : k < m.length
    · obtain ⟨wo, rfl⟩ : ∃ wo : World, wo = wr := ⟨_, rfl⟩
      obtain ⟨b, off, r, hA, hcell, hrow⟩ := Hcm.out k hlt
      subst hA
      have hBw := btr hX hB
      have hcr := (hBw.cell (p := ⟨b, off + k, none⟩) (World.block_lt_of_cell? _ _ hcell)).trans hcell
      have hroww := hrow.below hBw
      have hks : (k : Int) < m.length := by omega
      have hrm : m.getD k [] ∈ m := by rw [show m.getD k [] = m[k] by simp [List.getD_eq_getElem?_getD, List.getElem?_eq_getElem hlt]]; exact List.getElem_mem _
      obtain ⟨hrl, hrb⟩ := Hvr.out _ hrm
      have hlens : ∀ x ∈ (m.take k).map rowText, x.length ≤ 17 := fun x hx => by
        obtain ⟨y, hy, rfl⟩ := List.mem_map.1 hx
        obtain ⟨h1, h2⟩ := Hvr.out y (List.mem_of_mem_take hy)
        exact row_len h2 (by omega) (by omega)
      have hkl : ((m.take k).map rowText).length = k := by simp; omega
      have hjl : (Lib.join ((m.take k).map rowText) [32]).length ≤ 18 * k := by
        by_cases e : (m.take k).map rowText = []
        · rw [e, Lib.join_nil]; simp
        · have := join_lt 32 17 _ e hlens
          rw [hkl] at this; omega
      have hpl := preJ_len 32 17 _ hlens
      rw [hkl] at hpl
      have Hs := hid (show preJ 32 ((m.take k).map rowText) ++ rowText (m.getD k []) = Lib.join ((m.take (k + 1)).map rowText) [32] by rw [take_map_succ rowText m [] k hlt, preJ_snoc])
      have Hpre : Hid (k ≠ 0 → preJ 32 ((m.take k).map rowText) = Lib.join ((m.take k).map rowText) [32] ++ [32]) := hid (fun hk0 => by
        unfold preJ
        rw [if_neg (fun e => by rw [e] at hkl; simp at hkl; omega)])
      have Hpre0 : Hid (k = 0 → Lib.join ((m.take k).map rowText) [32] = preJ 32 ((m.take k).map rowText)) := hid (fun hk0 => by subst hk0; rfl)
      generalize Lib.join ((m.take k).map rowText) [32] = J at *
      generalize preJ 32 ((m.take k).map rowText) = P at *
      generalize hJ' : Lib.join ((m.take (k + 1)).map rowText) [32] = J' at *
      have HJ' := hid hJ'
      clear hJ'
      generalize hrowe : m.getD k [] = row at *
      clear hcell hrow hrm hlens hkl hrowe
      obtain ⟨Ar, capr, rfl, hlr, hcr2⟩ := id hroww
      have Hcr2 := hid hcr2
      have Hrb := hid hrb
      clear hcr2 hrb
      rw [hrl] at hcr
      go_upto_if 14 with fail
      go_cut [3] from 6 to 41 (fun s wc => s = .string (strB P) ∧ wc = wo)
      case first =>
        by_cases hk0 : k = 0
        · have h0 := Hpre0.out hk0
          subst hk0
          subst h0
          go_wp2
          go_meet
          exact ⟨rfl, rfl⟩
        · have h1 := Hpre.out hk0
          have hadd := str_addc (w := wo) J 32 (by omega)
          rw [← h1] at hadd
          have hkp : (0 : Int) < k := by omega
          clear h1 hk0
          go_wp2
          go_meet
          exact ⟨rfl, rfl⟩
      case rest =>
        obtain ⟨rfl, rfl⟩ := hcut
        go_wp2_with fail
        go_loopw [3, 5] (fun s i wi => ∃ j : Nat, j ≤ letters m ∧ i = .int .i64 j ∧ s = .string (strB (P ++ Lib.join ((row.take j).map fun x => Lib.decDigits x.toNat) [46])) ∧ Below wc.heap.size wc wi) (fun _ i _ => letters m - (intOf i).toNat)
        case atStart => exact ⟨0, Nat.zero_le _, rfl, by rw [List.take_zero, List.map_nil, Lib.join_nil, List.append_nil], Below.refl _ _⟩
        case round =>
          obtain ⟨j, hj, rfl, rfl, hBi⟩ := hrel
          have hBX := hB.trans (hBi.mono hB.size)
          have hBW := btr hX hBX
          have c1 := (hBX.cell (p := ⟨w.heap.size, 0, none⟩) hlt0).trans hbx
          have c2 := (hBi.cell (p := ⟨b, off + k, none⟩) (World.block_lt_of_cell? _ _ hcr)).trans hcr
          by_cases hjl : j < letters m
          · obtain ⟨br, offr, hAr, hct⟩ := Hcr2.out j (by omega)
            subst hAr
            have c3 := (hBi.cell (p := ⟨br, offr + j, none⟩) (World.block_lt_of_cell? _ _ hct)).trans hct
            have hjr : j < row.length := by omega
            have htb := Hrb.out (row.getD j 0) (by rw [getD_elem row j hjr]; exact List.getElem_mem _)
            have hxl : ∀ x ∈ (row.take j).map (fun x => Lib.decDigits x.toNat), x.length ≤ 2 := fun x hx => by
              obtain ⟨y, hy, rfl⟩ := List.mem_map.1 hx
              have := Hrb.out y (List.mem_of_mem_take hy)
              exact dec_len _ (by omega)
            have hkl : ((row.take j).map fun x => Lib.decDigits x.toNat).length = j := by simp; omega
            have hql := preJ_len 46 2 _ hxl
            rw [hkl] at hql
            have hjl2 : (Lib.join ((row.take j).map fun x => Lib.decDigits x.toNat) [46]).length ≤ 3 * j := by
              by_cases e : (row.take j).map (fun x => Lib.decDigits x.toNat) = []
              · rw [e, Lib.join_nil]; simp
              · have := join_lt 46 2 _ e hxl
                rw [hkl] at this; omega
            have Hs2 := hid (show preJ 46 ((row.take j).map fun x => Lib.decDigits x.toNat) ++ Lib.decDigits (row.getD j 0).toNat = Lib.join ((row.take (j + 1)).map fun x => Lib.decDigits x.toNat) [46] by rw [take_map_succ (fun x : Int => Lib.decDigits x.toNat) row 0 j hjr, preJ_snoc])
            have Hq : Hid (j ≠ 0 → preJ 46 ((row.take j).map fun x => Lib.decDigits x.toNat) = Lib.join ((row.take j).map fun x => Lib.decDigits x.toNat) [46] ++ [46]) := hid (fun hk0 => by
              unfold preJ
              rw [if_neg (fun e => by rw [e] at hkl; simp at hkl; omega)])
            have Hq0 : Hid (j = 0 → Lib.join ((row.take j).map fun x => Lib.decDigits x.toNat) [46] = preJ 46 ((row.take j).map fun x => Lib.decDigits x.toNat)) := hid (fun hk0 => by subst hk0; rfl)
            have hjs : (j : Int) < letters m := by omega
            generalize Lib.join ((row.take j).map fun x => Lib.decDigits x.toNat) [46] = Q at *
            generalize preJ 46 ((row.take j).map fun x => Lib.decDigits x.toNat) = R at *
            generalize hQ' : Lib.join ((row.take (j + 1)).map fun x => Lib.decDigits x.toNat) [46] = Q' at *
            have HQ' := hid hQ'
            clear hQ'
            generalize row.getD j 0 = t at *
            obtain ⟨tn, rfl⟩ := Int.eq_ofNat_of_zero_le htb.1
            rw [Int.toNat_natCast] at Hs2
            clear hct hxl hkl
            obtain ⟨wi, rfl⟩ : ∃ wi : World, wi = wr := ⟨_, rfl⟩
            go_upto_if 28 with fail
            go_cut [3] from 17 to 41 (fun s wd => s = .string (strB (P ++ R)) ∧ wd = wi)
            case first =>
              by_cases hk0 : j = 0
              · have h0 := Hq0.out hk0
                subst hk0
                subst h0
                go_wp2
                go_meet
                exact ⟨rfl, rfl⟩
              · have h1 := Hq.out hk0
                have hadd := str_addc (w := wi) (P ++ Q) 46 (by simp; omega)
                rw [List.append_assoc, ← h1] at hadd
                have hkp : (0 : Int) < j := by omega
                clear h1 hk0
                go_wp2
                go_meet
                exact ⟨rfl, rfl⟩
            case rest =>
              obtain ⟨rfl, rfl⟩ := hcut
              have hdl := dec_len tn (by omega)
              go_wp2_with fail
              refine (Digits_any tn (by omega) _).mono ?_
              rintro e wD ⟨rfl, hD⟩
              have hadd := str_add (w := wD) (P ++ R) (Lib.decDigits tn) (by simp; omega)
              rw [List.append_assoc, Hs2.out] at hadd
              go_wp2
              go_roundw
              case rel => exact ⟨j + 1, by omega, by go_num, by rw [HQ'.out], btr hBi hD⟩
              case measure => simp [intOf]; omega
          · obtain rfl : j = letters m := by omega
            have hQ : P ++ Lib.join ((row.take (letters m)).map fun x => Lib.decDigits x.toNat) [46] = J' := by
              rw [List.take_of_length_le (by omega)]; exact Hs.out
            rw [hQ]
            clear hQ
            go_wp2
            go_roundw
            case rel => exact ⟨k + 1, by omega, by go_num, by rw [HJ'.out], hBX⟩
            case measure => simp [intOf]; omega
    · obtain rfl : k = m.length := by omega
      rw [List.take_of_length_le (Nat.le_refl _)]
      go_wp2
      go_ret
      exact ⟨rfl, btr hX hB⟩
end Go.Proofs.YtibaihchnbbokaaDoor
