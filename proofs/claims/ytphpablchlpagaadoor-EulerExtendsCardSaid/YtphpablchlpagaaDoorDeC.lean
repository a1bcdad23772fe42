/-
  Texts that the proof of the law stands on: U10, U2, Z10, R9, Z2, Z20, Z22, Z24, Z26, Z30, U3, Y15, Inv.
-/
import Derived.Test.YtphpablchlpagaaDoorDeB
import Derived.BigQuiet
import Derived.Deep.QuietTactic
import Derived.Maps.AppendAt
import Derived.Deep.AppendLies
import Derived.RegionTactic
set_option linter.unusedVariables false
set_option linter.unusedSimpArgs false
namespace Go.Proofs.YtphpablchlpagaaDoor
open Go.RowKit Go.Shelf
/-- The numbers of the rows below s, and the first y of row s. -/
def flatTo (m : List (List Int)) (s y : Nat) : List Int := (m.take s).flatten ++ (m.getD s []).take y
theorem flatTo_next {m : List (List Int)} {s y : Nat} (hy : y < (m.getD s []).length) : flatTo m s (y + 1) = flatTo m s y ++ [(m.getD s []).getD y 0] := by
  unfold flatTo
  generalize m.getD s [] = r at *
  rw [List.take_succ_eq_append_getElem hy, ← List.append_assoc]
  simp [List.getD_eq_getElem?_getD, hy]
theorem flatTo_row {m : List (List Int)} {s k : Nat} (hs : s < m.length) (hk : (m.getD s []).length = k) : flatTo m (s + 1) 0 = flatTo m s k := by
  unfold flatTo
  rw [List.take_zero, List.append_nil, List.take_succ_eq_append_getElem hs, List.flatten_append, ← hk, List.take_length]
  simp [List.getD_eq_getElem?_getD, hs]
theorem flatTo_end (m : List (List Int)) : flatTo m m.length 0 = m.flatten := by unfold flatTo; simp
theorem timesL_snocU (l : List Int) (x n : Int) : timesL (l ++ [x]) n = timesL l n + if x = n then 1 else 0 := by
  unfold timesL
  rw [List.filter_append, List.length_append]
  by_cases e : x = n
  · simp [e]
  · simp [e]
theorem flat_six {k : Nat} : ∀ (m : List (List Int)), (∀ r ∈ m, r.length ≤ k) → m.flatten.length ≤ k * m.length
  | [], _ => by simp
  | r :: m, h => by
    have h1 := h r (by simp)
    have h2 := flat_six m (fun r hr => h r (by simp [hr]))
    rw [List.flatten_cons, List.length_append, List.length_cons, Nat.mul_succ]; omega
theorem row_six {m : List (List Int)} (hv : validM m = true) {r : List Int} (hr : r ∈ m) : r.length ≤ 6 := by
  obtain ⟨i, hi, rfl⟩ := List.mem_iff_getElem.1 hr
  obtain ⟨-, -, -, p4, p5⟩ := valid_parts hv
  have := (p5 i hi).1
  simp only [List.getD_eq_getElem?_getD, List.getElem?_eq_getElem hi, Option.getD_some] at this
  omega
theorem flatTo_len {m : List (List Int)} (hv : validM m = true) {s y : Nat} (hs : s < m.length) : (flatTo m s y).length ≤ 400 := by
  obtain ⟨p1, p2, p3, p4, p5⟩ := valid_parts hv
  have h1 := flat_six (k := 6) (m.take s) (fun r hr => row_six hv (List.mem_of_mem_take hr))
  have h2 := (p5 s hs).1
  unfold flatTo
  rw [List.length_append, List.length_take]
  rw [List.length_take] at h1
  have : min s m.length ≤ 60 := by omega
  have := Nat.mul_le_mul_left 6 this
  omega
theorem timesL_len (l : List Int) (n : Int) : timesL l n ≤ l.length := List.length_filter_le _ _
/-- Counts of the numbers below n. -/
def Lc (n : Nat) (c : Nat → Nat) : List Value := (List.range n).map fun t => .int .i64 (c t : Nat)
theorem Lc_cell {n i : Nat} (c : Nat → Nat) (h : i < n) : (Lc n c)[i]? = some (.int .i64 (c i : Nat)) := by simp [Lc, h]
theorem Lc_set {n i : Nat} (c : Nat → Nat) (v : Nat) : (Lc n c).set i (.int .i64 (v : Nat)) = Lc n (fun t => if t = i then v else c t) := by
  apply List.ext_getElem
  · simp [Lc]
  · intro j h1 h2
    simp only [Lc, List.length_set, List.length_map, List.length_range] at h1
    rw [List.getElem_set]
    by_cases e : i = j
    · subst e; simp [Lc]
    · simp [Lc, e, show ¬ j = i from fun h => e h.symm]
theorem Lc_congr {n : Nat} {c d : Nat → Nat} (h : ∀ t, t < n → c t = d t) : Lc n c = Lc n d := by
  unfold Lc
  exact List.map_congr_left fun t ht => by rw [h t (by simpa using ht)]
def eulB (m : List (List Int)) : Bool := (List.range m.length).all fun t : Nat => timesL m.flatten (t : Int) == letters m
theorem eulB_false {m : List (List Int)} {t : Nat} (ht : t < m.length) (h : timesL m.flatten (t : Int) ≠ letters m) : eulB m = false := by
  unfold eulB
  rw [List.all_eq_false]
  exact ⟨t, List.mem_range.2 ht, by simpa using h⟩
theorem eulB_true {m : List (List Int)} (h : ∀ t, t < m.length → timesL m.flatten (t : Int) = letters m) : eulB m = true := by
  unfold eulB
  rw [List.all_eq_true]
  exact fun t ht => by rw [h t (List.mem_range.1 ht)]; simp
set_option maxRecDepth 100000 in
set_option maxHeartbeats 4000000 in
theorem eulerian_any (v : Value) (m : List (List Int)) (w : World) (h : Rows w v m) (hv : validM m = true) :
    Calls Tryd.prog 32 #[.agg #[v]] w fun e w' => e = .returned (.bool (eulB m)) ∧ Below w.heap.size w w' := by
  obtain ⟨j0, hj, hy0, hy1, hy2⟩ := info_parts infoInt
  obtain ⟨p1, p2, p3, p4, p5⟩ := valid_parts hv
  have hr := h
  obtain ⟨A, cap, rfl, hml, hc⟩ := h
  obtain ⟨b0, off0, r0, hA, hc0, A0, cap0, hr0, -, -⟩ := hc 0 (by omega)
  subst hA
  subst hr0
  have hc0 : w.cell? ⟨b0, off0, none⟩ = some (.slice A0 (letters m) cap0) := hc0
  unfold big at hml
  have hX := bal (Below.refl _ w) (.cells #[.slice (some ⟨b0, off0, none⟩) m.length cap] 24)
  have Hc := hid hc
  clear hc
  go_enter Tryd.func32, Tryd.ntmps32
  go_wp2_with (at_make; go_must (refine wpList_make_full _ rfl _ _ 34 rfl (w.heap.size + 1) 3 j0 (.int .i64 0) 1 Tryd.underlying34 hj hy0 hy1 .i64 .i64 _ _ m.length rfl rfl rfl rfl (by rw [hy2]; omega) (by unfold maxLen; omega) (by simp) ?_); intro w1 hown hgrow; rw [show Value.cells (.int .i64 0) = #[.int .i64 0] from rfl, toList_madeCells_one, Nat.mul_one] at hown; simp only [World.size_alloc] at hown; have bx : w1.cell? ⟨w.heap.size, 0, none⟩ = some (.slice (some ⟨b0, off0, none⟩) m.length cap) := (World.cell?_of_block (hgrow.block w.heap.size (by simp) (by simp))).trans (by simp [go_sem]))
  have hB1 := hX.grown hgrow (by simp) (fun q hq => by cases hq)
  have hown0 : w1.ownsRow (w.heap.size + 1) 3 1 (.slice (some ⟨w.heap.size + 1, 0, none⟩) m.length m.length) m.length (Lc m.length fun t => timesL (flatTo m 0 0) t) := by
    have e : (Lc m.length fun t => timesL (flatTo m 0 0) t) = List.replicate m.length (.int .i64 0) := by
      apply List.ext_getElem
      · simp [Lc]
      · intro i h1 h2; simp [Lc, flatTo, timesL]
    rw [e]; simpa using hown
  have Hr := hid hr
  clear hown hgrow hX hr
  go_loopw [17] (fun sv wr => ∃ (s : Nat), s ≤ m.length ∧ sv = .int .i64 s ∧ wr.ownsRow (w.heap.size + 1) 3 1 (.slice (some ⟨w.heap.size + 1, 0, none⟩) m.length m.length) m.length (Lc m.length fun t => timesL (flatTo m s 0) t) ∧ Below w.heap.size w wr ∧ wr.cell? ⟨w.heap.size, 0, none⟩ = some (.slice (some ⟨b0, off0, none⟩) m.length cap)) (fun sv _ => m.length - (intOf sv).toNat)
  case atStart => exact ⟨0, Nat.zero_le _, rfl, hown0, hB1, bx⟩
  case round =>
    clear hown0 hB1 bx
    obtain ⟨s, hs, rfl, hO, hB, hbx⟩ := hrel
    have HO := hid hO
    clear hO
    by_cases hlt : s < m.length
    · have hss : (s : Int) < m.length := by omega
      have hsd : decide (s < m.length) = true := decide_eq_true hlt
      obtain ⟨b, off, r, hA, hcell, hI⟩ := Hc.out s hlt
      simp only [Option.some.injEq, Addr.mk.injEq, and_true] at hA
      obtain ⟨rfl, rfl⟩ := hA
      obtain ⟨As, caps, rfl, hls, hcs⟩ := hI
      obtain ⟨hrl, hrv⟩ := p5 s hlt
      have hcell' := (hB.cell (p := ⟨b0, off0 + s, none⟩) (World.block_lt_of_cell? _ _ hcell)).trans hcell
      have Hnx := hid (fun y (hy : y < letters m) => nx_ok hv hlt (x := (y : Int)) (by omega) (by omega))
      have hfn := fun y => flatTo_next (m := m) (s := s) (y := y)
      have hfr := flatTo_row hlt hrl
      have hfl := fun y => flatTo_len hv (s := s) (y := y) hlt
      rw [hrl] at hls
      obtain ⟨row, hrow⟩ : ∃ r, m.getD s [] = r := ⟨_, rfl⟩
      rw [hrow] at hcell' hcs hrl hfn
      have Hrl := hid hrl
      have Hrow := hid hrow
      rw [hrl] at hcell' hcs
      have Hcs := hid hcs
      have Hfn := hid hfn
      have Hfr := hid hfr
      have Hfl := hid hfl
      clear hcell hcs hrl hrow hrv hfn hfr hfl
      obtain ⟨wo, rfl⟩ : ∃ wo : World, wo = wr := ⟨_, rfl⟩
      go_wp2_with fail
      go_loopw [23] (fun yv wr => ∃ (y : Nat), y ≤ letters m ∧ yv = .int .i64 y ∧ wr.ownsRow (w.heap.size + 1) 3 1 (.slice (some ⟨w.heap.size + 1, 0, none⟩) m.length m.length) m.length (Lc m.length fun t => timesL (flatTo m s y) t) ∧ Below w.heap.size w wr ∧ wr.cell? ⟨w.heap.size, 0, none⟩ = some (.slice (some ⟨b0, off0, none⟩) m.length cap)) (fun yv _ => letters m - (intOf yv).toNat)
      case atStart => exact ⟨0, Nat.zero_le _, rfl, HO.out, hB, hbx⟩
      case round =>
        clear HO hB hbx hcell'
        obtain ⟨y, hy, rfl, hO, hB, hbx⟩ := hrel
        by_cases hyl : y < letters m
        · have hyy : (y : Int) < letters m := by omega
          have hyd : decide (y < letters m) = true := decide_eq_true hyl
          obtain ⟨bs, offs, hAs, hce⟩ := Hcs.out y hyl
          subst hAs
          obtain ⟨q, hq⟩ : ∃ q, nx m s (y : Int) = q := ⟨_, rfl⟩
          obtain ⟨n1, n2⟩ := Hnx.out y hyl
          rw [hq] at n1 n2
          rw [Int.toNat_natCast, Hrow.out] at n2
          rw [n2] at hce
          have hce' := (hB.cell (p := ⟨bs, offs + y, none⟩) (World.block_lt_of_cell? _ _ hce)).trans hce
          have hqq : (q : Int) < m.length := by omega
          have hcA := hO.cellAt q (by omega)
          rw [Lc_cell _ n1] at hcA
          have hfA := hO.frozenAt q
          obtain ⟨c, hcc⟩ : ∃ c, timesL (flatTo m s y) (q : Int) = c := ⟨_, rfl⟩
          have hc400 : c ≤ 400 := by rw [← hcc]; exact Nat.le_trans (timesL_len _ _) (Hfl.out y)
          rw [hcc] at hcA
          have hSt := (hO.stored q (.int .i64 ((c + 1 : Nat) : Int))).1
          have hfun : (Lc m.length fun t => if t = q then c + 1 else timesL (flatTo m s y) t) = Lc m.length fun t => timesL (flatTo m s (y + 1)) t := Lc_congr fun t _ => by
            rw [Hfn.out y (by rw [Hrl.out]; exact hyl), timesL_snocU, n2]
            by_cases e : t = q
            · subst e; rw [if_pos rfl, if_pos rfl, hcc]
            · rw [if_neg e, if_neg (by omega)]; rfl
          rw [Lc_set, hfun] at hSt
          have HSt := hid hSt
          have hBs := hid (hB.setCell (p := ⟨w.heap.size + 1, q, none⟩) (by show w.heap.size ≤ w.heap.size + 1; omega) (.int .i64 ((c + 1 : Nat) : Int)))
          have hbxs : (wr.setCell ⟨w.heap.size + 1, q, none⟩ (.int .i64 ((c + 1 : Nat) : Int))).cell? ⟨w.heap.size, 0, none⟩ = some (.slice (some ⟨b0, off0, none⟩) m.length cap) := (World.cell?_of_block (Below.heap_setCell _ _ _ _ (by simp))).trans hbx
          rw [show ((c + 1 : Nat) : Int) = (c : Int) + 1 from rfl] at HSt hBs hbxs
          clear hSt hfun hO hce hcc n2 hq
          go_wp2_with fail
          go_roundw
          case rel => exact ⟨y + 1, by omega, by go_num, HSt.out, hBs.out, hbxs⟩
          case measure => simp [intOf]; omega
        · have hyy : ¬ (y : Int) < letters m := by omega
          have hyd : decide (y < letters m) = false := decide_eq_false hyl
          obtain rfl : y = letters m := by omega
          have HO := hid hO
          clear hO
          go_wp2_with fail
          go_roundw
          case rel => exact ⟨s + 1, by omega, by go_num, by rw [Hfr.out]; exact HO.out, hB, hbx⟩
          case measure => simp [intOf]; omega
    · have hss : ¬ (s : Int) < m.length := by omega
      have hsd : decide (s < m.length) = false := decide_eq_false hlt
      obtain rfl : s = m.length := by omega
      have hO := HO.out
      rw [flatTo_end] at hO
      have HO := hid hO
      clear hO
      go_wp2_with fail
      go_loopw [37] (fun tv wr => ∃ (t : Nat), t ≤ m.length ∧ tv = .int .i64 t ∧ (∀ t', t' < t → timesL m.flatten (t' : Int) = letters m) ∧ wr.ownsRow (w.heap.size + 1) 3 1 (.slice (some ⟨w.heap.size + 1, 0, none⟩) m.length m.length) m.length (Lc m.length fun t => timesL m.flatten t) ∧ Below w.heap.size w wr ∧ wr.cell? ⟨w.heap.size, 0, none⟩ = some (.slice (some ⟨b0, off0, none⟩) m.length cap)) (fun tv _ => m.length - (intOf tv).toNat)
      case atStart => exact ⟨0, Nat.zero_le _, rfl, fun t' h => by omega, HO.out, hB, hbx⟩
      case round =>
        clear HO hB hbx
        obtain ⟨t, ht, rfl, hpre, hO, hB, hbx⟩ := hrel
        have Hpre := hid hpre
        clear hpre
        by_cases hlt2 : t < m.length
        · have htt : (t : Int) < m.length := by omega
          have htd : decide (t < m.length) = true := decide_eq_true hlt2
          have hcA := hO.cellAt t (by omega)
          rw [Lc_cell _ hlt2] at hcA
          have hc0' := (hB.cell (p := ⟨b0, off0, none⟩) (World.block_lt_of_cell? _ _ hc0)).trans hc0
          obtain ⟨c, hcc⟩ : ∃ c, timesL m.flatten (t : Int) = c := ⟨_, rfl⟩
          rw [hcc] at hcA
          have HO := hid hO
          have Hcc := hid hcc
          clear hO hcc
          by_cases hcl : c = letters m
          · subst hcl
            go_wp2_with fail
            go_roundw
            case rel => exact ⟨t + 1, by omega, by go_num, fun t' h' => by
              by_cases e : t' = t
              · subst e; exact Hcc.out
              · exact Hpre.out t' (by omega), HO.out, hB, hbx⟩
            case measure => simp [intOf]; omega
          · have hne : ¬ ((c : Int) = letters m) := by omega
            have hnd : decide ((c : Int) = letters m) = false := decide_eq_false hne
            have hnb : ((c : Int) == letters m) = false := by simpa using hne
            go_wp2_with fail
            go_ret
            rw [eulB_false hlt2 (by rw [Hcc.out]; exact hcl)]
            exact ⟨rfl, hB⟩
        · have htt : ¬ (t : Int) < m.length := by omega
          have htd : decide (t < m.length) = false := decide_eq_false hlt2
          obtain rfl : t = m.length := by omega
          clear hO
          go_wp2_with fail
          go_ret
          rw [eulB_true Hpre.out]
          exact ⟨rfl, hB⟩
end Go.Proofs.YtphpablchlpagaaDoor
namespace Go.Proofs.YtphpablchlpagaaDoor
/-- A sum of multiples of vectors. -/
def comb : List (Int × (Nat → Int)) → Nat → Int
  | [], _ => 0
  | (a, u) :: l, t => a * u t + comb l t
theorem comb_append : ∀ (l k : List (Int × (Nat → Int))) (t : Nat), comb (l ++ k) t = comb l t + comb k t
  | [], k, t => by simp [comb]
  | (a, u) :: l, k, t => by show a * u t + comb (l ++ k) t = a * u t + comb l t + comb k t; rw [comb_append l k t, Int.add_assoc]
theorem comb_scale (c : Int) : ∀ (l : List (Int × (Nat → Int))) (t : Nat), comb (l.map fun p => (c * p.1, p.2)) t = c * comb l t
  | [], t => by simp [comb]
  | (a, u) :: l, t => by show c * a * u t + comb _ t = c * (a * u t + comb l t); rw [comb_scale c l t]; grind
/-- v is a combination of vectors of P, on the first n places, up to a factor. -/
def SpanI (n : Nat) (P : (Nat → Int) → Prop) (v : Nat → Int) : Prop := ∃ (c : Int) (l : List (Int × (Nat → Int))), c ≠ 0 ∧ (∀ p ∈ l, P p.2) ∧ ∀ t, t < n → c * v t = comb l t
theorem SpanI.mono {n : Nat} {P Q : (Nat → Int) → Prop} {v : Nat → Int} (h : SpanI n P v) (hPQ : ∀ u, P u → Q u) : SpanI n Q v := by
  obtain ⟨c, l, h1, h2, h3⟩ := h
  exact ⟨c, l, h1, fun p hp => hPQ _ (h2 p hp), h3⟩
/-- Combinations of combinations. -/
theorem SpanI.comb {n : Nat} {P : (Nat → Int) → Prop} : ∀ (l : List (Int × (Nat → Int))), (∀ p ∈ l, SpanI n P p.2) → SpanI n P (comb l)
  | [], _ => ⟨1, [], by decide, fun p hp => by simp at hp, fun t _ => by simp [Go.Proofs.YtphpablchlpagaaDoor.comb]⟩
  | (a, u) :: l, h => by
    obtain ⟨c, k, h1, h2, h3⟩ := h (a, u) (by simp)
    obtain ⟨d, j, g1, g2, g3⟩ := SpanI.comb l (fun p hp => h p (by simp [hp]))
    refine ⟨c * d, k.map (fun p => (a * d * p.1, p.2)) ++ j.map (fun p => (c * p.1, p.2)), Int.mul_ne_zero h1 g1, fun p hp => ?_, fun t ht => ?_⟩
    · rcases List.mem_append.1 hp with hp | hp
      · obtain ⟨q, hq, rfl⟩ := List.mem_map.1 hp
        exact h2 q hq
      · obtain ⟨q, hq, rfl⟩ := List.mem_map.1 hp
        exact g2 q hq
    · rw [comb_append, comb_scale, comb_scale, ← h3 t ht, ← g3 t ht]
      show c * d * (a * u t + Go.Proofs.YtphpablchlpagaaDoor.comb l t) = _
      simp only
      grind
theorem SpanI.trans {n : Nat} {P Q : (Nat → Int) → Prop} {v : Nat → Int} (h : SpanI n P v) (hPQ : ∀ u, P u → SpanI n Q u) : SpanI n Q v := by
  obtain ⟨c, l, h1, h2, h3⟩ := h
  obtain ⟨d, k, g1, g2, g3⟩ := SpanI.comb l (fun p hp => hPQ _ (h2 p hp))
  exact ⟨d * c, k, Int.mul_ne_zero g1 h1, g2, fun t ht => by rw [← g3 t ht, ← h3 t ht, Int.mul_assoc]⟩
end Go.Proofs.YtphpablchlpagaaDoor
namespace Go.Proofs.YtphpablchlpagaaDoor
open Go.RowKit Go.Shelf
/-- The rows of a state hold each number as often. -/
def sameAt (m k : List (List Int)) (s : Nat) : Bool := (List.range m.length).all fun t : Nat => timesL (m.getD s []) t == timesL (k.getD s []) t
end Go.Proofs.YtphpablchlpagaaDoor
namespace Go.Proofs.YtphpablchlpagaaDoor
open Go.RowKit Go.Shelf
/-- A row of rows, all of them the call's own, no two in one block; P: what is known of the rows' blocks. -/
structure Jag (W : World) (base Z n cap : Nat) (xs : List Value) (L : Nat → List Int) (P : Nat → Prop) : Prop where
  outer : W.ownsRow base 34 1 (.slice (some ⟨Z, 0, none⟩) n cap) n xs
  row : ∀ i, i < n → W.ownsRow base 3 1 (xs.getD i .nilIface) (L i).length ((L i).map fun x => .int .i64 x)
  off : ∀ i, i < n → ∀ g, (xs.getD i .nilIface).ownBlock = some g → g ≠ Z ∧ P g
  apart : ∀ i j, i < n → j < n → i ≠ j → ∀ g, (xs.getD i .nilIface).ownBlock = some g → (xs.getD j .nilIface).ownBlock ≠ some g
theorem ownsRow_blk {w : World} {base : Nat} {e : TypeId} {s : Nat} {v : Value} {n : Nat} {xs : List Value} (h : w.ownsRow base e s v n xs) : ∀ g, v.ownBlock = some g → base ≤ g ∧ g < w.heap.size := by
  intro g hg
  rcases h.2 with ⟨rfl, _⟩ | ⟨g', cap, cur, rfl, hb, hh, _⟩
  · cases hg
  · cases hg; exact ⟨hb, lt_of_block hh⟩
theorem Jag.kept {W W' : World} {base Z n cap : Nat} {xs : List Value} {L : Nat → List Int} {P : Nat → Prop} (h : Jag W base Z n cap xs L P) (hk : ∀ k, k < W.heap.size → base ≤ k → k = Z ∨ P k → W'.heap[k]? = W.heap[k]?) : Jag W' base Z n cap xs L P := by
  refine ⟨ownsRow_same h.outer fun g hg => ?_, fun i hi => ownsRow_same (h.row i hi) fun g hg => ?_, h.off, h.apart⟩
  · have := ownsRow_blk h.outer g hg
    cases hg
    exact hk _ this.2 this.1 (.inl rfl)
  · have := ownsRow_blk (h.row i hi) g hg
    exact hk _ this.2 this.1 (.inr (h.off i hi g hg).2)
theorem getD_set_same {xs : List Value} {s : Nat} (v : Value) (h : s < xs.length) : (xs.set s v).getD s .nilIface = v := by simp [List.getD_eq_getElem?_getD, List.getElem?_set, h]
theorem getD_set_other {xs : List Value} {s i : Nat} (v : Value) (h : i ≠ s) : (xs.set s v).getD i .nilIface = xs.getD i .nilIface := by
  simp only [List.getD_eq_getElem?_getD]
  rw [List.getElem?_set_ne (fun e => h e.symm)]
/-- One row has grown, and its new value is stored. -/
theorem Jag.step {W W5 : World} {base Z n cap s g1 c1 kk : Nat} {xs : List Value} {L L' : Nat → List Int} {P : Nat → Prop} {x : Int} {o : Obj} {ls : List Int} (h : Jag W base Z n cap xs L P) (hs : s < n) (hls : L s = ls) (hkk : ls.length = kk)
    (hg : (W.alloc o).grownBy W5 (xs.getD s .nilIface).ownBlock)
    (ho : W5.ownsRow base 3 1 (.slice (some ⟨g1, 0, none⟩) (kk + 1) c1) (kk + 1) ((ls.map fun x => .int .i64 x) ++ [.int .i64 x]))
    (hat : (xs.getD s .nilIface).ownBlock = some g1 ∨ g1 = W.heap.size + 1) (hP : P (W.heap.size + 1)) (hL' : ∀ i, L' i = if i = s then ls ++ [x] else L i) :
    Jag (W5.setCell ⟨Z, s, none⟩ (.slice (some ⟨g1, 0, none⟩) (kk + 1) c1)) base Z n cap (xs.set s (.slice (some ⟨g1, 0, none⟩) (kk + 1) c1)) L' P := by
  subst hls
  subst hkk
  obtain rfl : L' = fun i => if i = s then L s ++ [x] else L i := funext hL'
  clear hL'
  have hxl : xs.length = n := by have := h.outer.1; omega
  have hZ := (ownsRow_blk h.outer Z rfl).2
  have hZ5 : W5.heap[Z]? = W.heap[Z]? := (hg.block Z (by simp; omega) (fun e => (h.off s hs Z e.symm).1 rfl)).trans (Below.heap_alloc _ _ _ hZ)
  have hO5 := owns_block h.outer hZ5
  have hg1 : g1 ≠ Z ∧ P g1 := by
    rcases hat with e | e
    · exact h.off s hs g1 e
    · subst e; exact ⟨by omega, hP⟩
  have hother : ∀ i, i < n → i ≠ s → ∀ g, (xs.getD i .nilIface).ownBlock = some g → g ≠ g1 ∧ (W5.setCell ⟨Z, s, none⟩ (.slice (some ⟨g1, 0, none⟩) ((L s).length + 1) c1)).heap[g]? = W.heap[g]? := by
    intro i hi his g he
    have hb := ownsRow_blk (h.row i hi) g he
    refine ⟨fun e => ?_, ?_⟩
    · subst e
      rcases hat with e | e
      · exact h.apart i s hi hs his g he e
      · omega
    · rw [Below.heap_setCell _ _ _ _ (by have := (h.off i hi g he).1; simpa using this), hg.block g (by simp; omega) (fun e => h.apart i s hi hs his g he e.symm), Below.heap_alloc _ _ _ hb.2]
  refine ⟨(hO5.stored s _).1, fun i hi => ?_, fun i hi g he => ?_, fun i j hi hj hij g he => ?_⟩
  · by_cases e : i = s
    · subst e
      rw [getD_set_same _ (by omega)]
      simp only [if_true, List.length_append, List.length_cons, List.length_nil, List.map_append, List.map_cons, List.map_nil]
      exact owns_block ho (Below.heap_setCell _ _ _ _ (by simpa using hg1.1))
    · rw [getD_set_other _ e]
      simp only [if_neg e]
      exact ownsRow_same (h.row i hi) fun g he => (hother i hi e g he).2
  · by_cases e : i = s
    · subst e
      rw [getD_set_same _ (by omega)] at he
      cases he
      exact hg1
    · rw [getD_set_other _ e] at he
      exact h.off i hi g he
  · by_cases e : i = s
    · subst e
      rw [getD_set_same _ (by omega)] at he
      cases he
      rw [getD_set_other _ (fun e => hij e.symm)]
      exact fun he' => (hother j hj (fun e => hij e.symm) _ he').1 rfl
    · rw [getD_set_other _ e] at he
      by_cases e2 : j = s
      · subst e2
        rw [getD_set_same _ (by omega)]
        intro he'
        cases he'
        exact (hother i hi e _ he).1 rfl
      · rw [getD_set_other _ e2]
        exact h.apart i j hi hj hij g he
theorem owns_base {W : World} {base base' : Nat} {e : TypeId} {s : Nat} {v : Value} {n : Nat} {xs : List Value} (h : W.ownsRow base e s v n xs) (hb : base' ≤ base) : W.ownsRow base' e s v n xs := by
  obtain ⟨h1, h2⟩ := h
  refine ⟨h1, ?_⟩
  rcases h2 with h2 | ⟨g, cap, cur, hv, hg, r⟩
  · exact .inl h2
  · exact .inr ⟨g, cap, cur, hv, by omega, r⟩
theorem Jag.congr {W : World} {base Z n cap : Nat} {xs : List Value} {L L' : Nat → List Int} {P : Nat → Prop} (h : Jag W base Z n cap xs L P) (hL : ∀ i, i < n → L i = L' i) : Jag W base Z n cap xs L' P :=
  ⟨h.outer, fun i hi => by rw [← hL i hi]; exact h.row i hi, h.off, h.apart⟩
/-- Rows that are all nil. -/
theorem Jag.start {W : World} {base Z n cap : Nat} {P : Nat → Prop} {L : Nat → List Int} (h : W.ownsRow base 34 1 (.slice (some ⟨Z, 0, none⟩) n cap) n (List.replicate n (.slice none 0 0))) (hL : ∀ i, L i = []) : Jag W base Z n cap (List.replicate n (.slice none 0 0)) L P := by
  have hget : ∀ i, i < n → (List.replicate n (Value.slice none 0 0)).getD i .nilIface = .slice none 0 0 := fun i hi => by simp [List.getD_eq_getElem?_getD, List.getElem?_replicate, hi]
  refine ⟨h, fun i hi => ?_, fun i hi g he => ?_, fun i j hi hj _ g he => ?_⟩
  · rw [hget i hi, hL i]; exact ⟨rfl, .inl ⟨rfl, rfl⟩⟩
  · rw [hget i hi] at he; cases he
  · rw [hget i hi] at he; cases he
end Go.Proofs.YtphpablchlpagaaDoor
namespace Go.Proofs.YtphpablchlpagaaDoor
def pivI (l : List Int) : Nat → Nat
  | 0 => 0
  | i + 1 => if l.getD (i + 1) 0 ≤ l.getD i 0 then pivI l i else i + 1
def pivot (l : List Int) : Nat := pivI l (l.length - 1)
def findJ (r : List Int) (a : Int) : Nat → Nat → Nat
  | 0, j => j
  | f + 1, j => if r.getD j 0 ≤ a then findJ r a f (j + 1) else j
def turned (l : List Int) (i : Nat) : List Int := l.take i ++ (l.drop i).reverse
def swapL (r : List Int) (p j : Nat) : List Int := (r.set p (r.getD j 0)).set j (r.getD p 0)
def nextP (l : List Int) : List Int :=
  if pivot l = 0 then turned l 0 else swapL (turned l (pivot l)) (pivot l - 1) (findJ (turned l (pivot l)) ((turned l (pivot l)).getD (pivot l - 1) 0) l.length (pivot l))
def iterP : Nat → List Int → List Int
  | 0, l => l
  | n + 1, l => iterP n (nextP l)
end Go.Proofs.YtphpablchlpagaaDoor
namespace Go.Proofs.YtphpablchlpagaaDoor
open Go.RowKit Go.Shelf
/-- After how many steps a row comes back. -/
def perGo (l : List Int) : Nat → List Int → Nat → Nat
  | 0, _, i => i
  | f + 1, q, i => if q = l then i else perGo l f (nextP q) (i + 1)
def perP (l : List Int) : Nat := perGo l 721 (nextP l) 1
def rowsP (l : List Int) (i : Nat) : List (List Int) := (List.range i).map fun j => iterP j l
/-- All orders of a row, the row itself first. -/
def orbP (l : List Int) : List (List Int) := rowsP l (perP l)
/-- A list of one row, made by the call. -/
theorem MRows.one {w : World} {base : Nat} {u : Value} {l : List Int} (hu : IntsOff w base none u l) (hb : base ≤ w.heap.size) : MRows (w.alloc (.cells #[u] 34)) base (.slice (some ⟨w.heap.size, 0, none⟩) 1 1) [l] := by
  refine ⟨[u], ?_, fun i hi => ?_⟩
  · exact World.ownsRow_lit (e := 34) w #[u] 1 hb (by unfold maxLen; omega) rfl
  · obtain rfl : i = 0 := by simpa using hi
    refine IntsOff.kept (g := none) (W := w) hu (fun k _ hk _ => Below.heap_alloc _ _ _ hk) (fun k hk _ e => ?_)
    have e2 := Option.some.inj e
    simp at e2
    omega
end Go.Proofs.YtphpablchlpagaaDoor
namespace Go.Proofs.YtphpablchlpagaaDoor
open Go.RowKit Go.Shelf
theorem IntsOff.mono {W : World} {base base' : Nat} {g : Option Nat} {v : Value} {l : List Int} (h : IntsOff W base g v l) (hb : base' ≤ base) : IntsOff W base' g v l := by
  obtain ⟨A, cap, hv, hl, hc⟩ := h
  refine ⟨A, cap, hv, hl, fun i hi => ?_⟩
  obtain ⟨b, off, hA, h1, h2⟩ := hc i hi
  exact ⟨b, off, hA, by omega, h2⟩
theorem MRows.mono {W : World} {base base' : Nat} {v : Value} {m : List (List Int)} (h : MRows W base v m) (hb : base' ≤ base) : MRows W base' v m := by
  obtain ⟨xs, ho, hx⟩ := h
  exact ⟨xs, row_mono ho hb, fun i hi => (hx i hi).mono hb⟩
/-- The orders of the first s states. -/
def OrdT (W : World) (base g : Nat) (m : List (List Int)) (s : Nat) : Prop :=
  ∃ xs : List Value, W.ownsRow base 22 1 (.slice (some ⟨g, 0, none⟩) m.length m.length) m.length xs ∧ ∀ j, j < s → MRows W (g + 1) (xs.getD j .nilIface) (orbP (m.getD j []))
theorem OrdT.lt {W : World} {base g s : Nat} {m : List (List Int)} (h : OrdT W base g m s) : base ≤ g ∧ g < W.heap.size := by
  obtain ⟨xs, ho, _⟩ := h
  exact ownsRow_blk ho g rfl
theorem OrdT.kept {W W' : World} {base g s : Nat} {m : List (List Int)} (h : OrdT W base g m s) (hk : ∀ k, g ≤ k → k < W.heap.size → W'.heap[k]? = W.heap[k]?) : OrdT W' base g m s := by
  obtain ⟨xs, ho, hx⟩ := h
  have hl := ownsRow_blk ho g rfl
  exact ⟨xs, owns_block ho (hk g (Nat.le_refl _) hl.2), fun j hj => (hx j hj).kept fun k h1 h2 => hk k (by omega) h2⟩
theorem OrdT.below {W W' : World} {base g s : Nat} {m : List (List Int)} (h : OrdT W base g m s) (hb : Below W.heap.size W W') : OrdT W' base g m s := h.kept fun k _ hk => hb.block k hk
theorem OrdT.put {W W' : World} {base g k n1 : Nat} {m : List (List Int)} {u : Value} (h : OrdT W base g m k) (hb : Below W.heap.size W W') (hM : MRows W' n1 u (orbP (m.getD k []))) (hn : g < n1) (hk : k < m.length) : OrdT (W'.setCell ⟨g, k, none⟩ u) base g m (k + 1) := by
  obtain ⟨xs, ho, hx⟩ := h.below hb
  have hxl : xs.length = m.length := by have := ho.1; omega
  refine ⟨xs.set k u, (World.ownsRow.stored ho k u).1, fun j hj => ?_⟩
  have hsame : ∀ q, g + 1 ≤ q → q < W'.heap.size → (W'.setCell ⟨g, k, none⟩ u).heap[q]? = W'.heap[q]? := fun q hq _ => Below.heap_setCell _ _ _ _ (by simp; omega)
  by_cases e : j = k
  · subst e
    rw [getD_set_same _ (by omega)]
    exact (hM.mono (by omega)).kept hsame
  · rw [getD_set_other _ e]
    exact (hx j (by omega)).kept hsame
theorem OrdT.free {W : World} {base g s : Nat} {m : List (List Int)} (h : OrdT W base g m s) (j : Nat) : W.frozen? ⟨g, j, none⟩ = false := by
  obtain ⟨xs, ho, _⟩ := h
  exact World.ownsRow.frozenAt ho j
theorem OrdT.cell {W : World} {base g s : Nat} {m : List (List Int)} (h : OrdT W base g m s) {j : Nat} (hj : j < m.length) : ∃ u, W.cell? ⟨g, j, none⟩ = some u ∧ (j < s → MRows W (g + 1) u (orbP (m.getD j []))) := by
  obtain ⟨xs, ho, hx⟩ := h
  have hxl : xs.length = m.length := by have := ho.1; omega
  refine ⟨xs.getD j .nilIface, ?_, fun hs => hx j hs⟩
  rw [ho.cellAt j (by omega)]
  simp [List.getD_eq_getElem?_getD, List.getElem?_eq_getElem (show j < xs.length by omega)]
end Go.Proofs.YtphpablchlpagaaDoor
namespace Go.Proofs.YtphpablchlpagaaDoor
open Go.RowKit Go.Shelf
theorem Turn.below {X : Blocks} {W W' : World} {n : Nat} (h : Turn X W W') (hX : ∀ k, X k → n ≤ k) (hn : n ≤ W.heap.size) : Below n W W' :=
  ⟨h.os, h.tape, h.output, h.size, fun k hk => h.block k (by omega) (fun hx => by have := hX k hx; omega)⟩
end Go.Proofs.YtphpablchlpagaaDoor
namespace Go.Proofs.YtphpablchlpagaaDoor
open Go.RowKit Go.Shelf
attribute [local go_sem] Oper.semAt_some
def NumG (N : Nat) (X : Blocks) (x : Value × List (List Int)) (W : World) : Prop :=
  ∃ nb W1, N ≤ nb ∧ MRows W1 nb x.1 x.2 ∧ W1.heap.size ≤ W.heap.size ∧ ∀ k, nb ≤ k → k < W1.heap.size → X k ∧ W.heap[k]? = W1.heap[k]?
theorem NumG.keep {N : Nat} {X : Blocks} {x : Value × List (List Int)} {n₀ : Nat} {W W' : World} (h : NumG N X x W) (k : Keep n₀ X W W') : NumG N X x W' := by
  obtain ⟨nb, W1, h0, h1, h2, h3⟩ := h
  exact ⟨nb, W1, h0, h1, Nat.le_trans h2 k.size, fun q hq hs => ⟨(h3 q hq hs).1, (k.block q (by omega) (.inr (h3 q hq hs).1)).trans (h3 q hq hs).2⟩⟩
end Go.Proofs.YtphpablchlpagaaDoor
namespace Go.Proofs.YtphpablchlpagaaDoor
/-- The rows of one automaton are orders of those of another one. -/
def PermR (m k : List (List Int)) : Prop := k.length = m.length ∧ ∀ s, s < m.length → (k.getD s []).Perm (m.getD s [])
theorem PermR.lets {m k : List (List Int)} (h : PermR m k) (hv : validM m = true) : letters k = letters m := by
  obtain ⟨p1, p2, p3, p4, p5⟩ := valid_parts hv
  show (k.getD 0 []).length = letters m
  rw [(h.2 0 (by omega)).length_eq, (p5 0 (by omega)).1]
theorem PermR.same {m k : List (List Int)} (h : PermR m k) (hv : validM m = true) : sameM m k = true := by
  rw [sameM, decide_eq_true h.1.symm, decide_eq_true (h.lets hv).symm, Bool.true_and, Bool.true_and, List.all_eq_true]
  intro s hs
  rw [List.all_eq_true]
  intro t _
  rw [beq_iff_eq]
  exact timesL_perm (h.2 s (List.mem_range.1 hs)).symm _
end Go.Proofs.YtphpablchlpagaaDoor
namespace Go.Proofs.YtphpablchlpagaaDoor
theorem WDm.all {m : List (List Int)} {u : List Int} (h : WDm m u) : u.all (inB 0 ((letters m : Int) - 1)) = true := List.all_eq_true.2 fun x hx => inB_true (by have := h x hx; omega)
theorem WDm.toNat {m : List (List Int)} : ∀ {u : List Int}, WDm m u → ∃ w, Wd (letters m) w ∧ w.length = u.length ∧ u = w.map fun x : Nat => (x : Int)
  | [], _ => ⟨[], fun x hx => by simp at hx, rfl, rfl⟩
  | x :: u, h => by
    have hx := h x (by simp)
    obtain ⟨y, rfl⟩ := Int.eq_ofNat_of_zero_le hx.1
    obtain ⟨w, h1, h2, h3⟩ := WDm.toNat (u := u) fun z hz => h z (by simp [hz])
    refine ⟨y :: w, fun z hz => ?_, by simp [h2], by rw [h3]; rfl⟩
    rcases List.mem_cons.1 hz with e | e
    · subst e; omega
    · exact h1 z e
end Go.Proofs.YtphpablchlpagaaDoor
namespace Go.Proofs.YtphpablchlpagaaDoor
open Go.RowKit Go.Shelf
theorem Ints.off {W : World} {b o n c k o' : Nat} {l : List Int} {x : Value} (h : Ints W (.slice (some ⟨b, o, none⟩) n c) l) (hk : b ≠ k) : Ints (W.setCell ⟨k, o', none⟩ x) (.slice (some ⟨b, o, none⟩) n c) l := by
  obtain ⟨A, cap, hv, hl, hc⟩ := h
  refine ⟨A, cap, hv, hl, fun i hi => ?_⟩
  obtain ⟨b', off, hA, hcell⟩ := hc i hi
  refine ⟨b', off, hA, ?_⟩
  simp only [Value.slice.injEq] at hv
  rw [← hv.1] at hA
  simp only [Option.some.injEq, Addr.mk.injEq, and_true] at hA
  obtain ⟨rfl, rfl⟩ := hA
  exact (World.cell?_of_block (Below.heap_setCell _ _ _ _ hk)).trans hcell
/-- The rows of a table that is being made, each of two numbers: the first k are there. -/
def rowsC (n k : Nat) (B : Nat → Nat) : List Value := (List.range n).map fun p => if p < k then .slice (some ⟨B p, 0, none⟩) 2 2 else .slice none 0 0
structure RTb (W : World) (n₀ g n k : Nat) (B : Nat → Nat) (f : Nat → List Int) : Prop where
  outer : W.ownsRow n₀ 34 1 (.slice (some ⟨g, 0, none⟩) n n) n (rowsC n k B)
  inner : ∀ p, p < k → Ints W (.slice (some ⟨B p, 0, none⟩) 2 2) (f p)
  apart : ∀ p, p < k → B p ≠ g ∧ n₀ ≤ B p
section
variable {W W' : World} {n₀ g n k : Nat} {B : Nat → Nat} {f : Nat → List Int}
theorem RTb.new (h : W.ownsRow n₀ 34 1 (.slice (some ⟨g, 0, none⟩) n n) n (List.replicate n (.slice none 0 0))) : RTb W n₀ g n 0 B f := by
  refine ⟨?_, fun p hp => by omega, fun p hp => by omega⟩
  have e : rowsC n 0 B = List.replicate n (.slice none 0 0) := by
    apply List.ext_getElem
    · simp [rowsC]
    · intro i h1 h2; simp [rowsC]
  rw [e]; exact h
theorem RTb.below (h : RTb W n₀ g n k B f) (hb : Below W.heap.size W W') : RTb W' n₀ g n k B f :=
  ⟨owns_kept h.outer fun b _ hs => hb.block b hs, fun p hp => (h.inner p hp).below hb, h.apart⟩
theorem RTb.lt (h : RTb W n₀ g n k B f) : n₀ ≤ g ∧ g < W.heap.size := ownq_lt h.outer
/-- A row is stored: the next one, or in the place of one that was there. -/
theorem RTb.row {p b k' : Nat} {l : List Int} (h : RTb W n₀ g n k B f) (hp : p ≤ k) (hk' : k' = if p = k then k + 1 else k) (hb : b ≠ g ∧ n₀ ≤ b) (hl : Ints W (.slice (some ⟨b, 0, none⟩) 2 2) l) :
    RTb (W.setCell ⟨g, p, none⟩ (.slice (some ⟨b, 0, none⟩) 2 2)) n₀ g n k' (fun i => if i = p then b else B i) (fun i => if i = p then l else f i) := by
  obtain ⟨s1, -⟩ := h.outer.stored p (.slice (some ⟨b, 0, none⟩) 2 2)
  have hlt : ∀ i, i < k' → i ≠ p → i < k := fun i hi hne => by
    by_cases e : p = k
    · rw [if_pos e] at hk'; omega
    · rw [if_neg e] at hk'; omega
  refine ⟨?_, fun i hi => ?_, fun i hi => ?_⟩
  · refine cast ?_ s1
    congr 1
    apply List.ext_getElem
    · simp [rowsC]
    · intro i h1 h2
      rw [List.getElem_set]
      by_cases e : p = i
      · subst e
        have : p < k' := by
          by_cases e2 : p = k
          · rw [if_pos e2] at hk'; omega
          · rw [if_neg e2] at hk'; omega
        simp [rowsC, this]
      · rw [if_neg e]
        simp only [rowsC, List.getElem_map, List.getElem_range]
        have e' : ¬ i = p := fun h => e h.symm
        simp only [e', if_false]
        by_cases e2 : i < k
        · rw [if_pos e2, if_pos (by
            by_cases e3 : p = k
            · rw [if_pos e3] at hk'; omega
            · rw [if_neg e3] at hk'; omega)]
        · rw [if_neg e2, if_neg (fun h3 => e2 (hlt i h3 e'))]
  · by_cases e : i = p
    · subst e; simp only [if_true]; exact hl.off hb.1
    · simp only [if_neg e]; exact (h.inner i (hlt i hi e)).off (h.apart i (hlt i hi e)).1
  · by_cases e : i = p
    · subst e; simp only [if_true]; exact hb
    · simp only [if_neg e]; exact h.apart i (hlt i hi e)
theorem RTb.other {c : Nat} {u : Value} (h : RTb W n₀ g n k B f) (hc : c < n₀) : RTb (W.setCell ⟨c, 0, none⟩ u) n₀ g n k B f :=
  ⟨owns_block h.outer (Below.heap_setCell _ _ _ _ (by have := h.lt; simp; omega)), fun p hp => (h.inner p hp).off (by have := (h.apart p hp).2; omega), h.apart⟩
theorem RTb.cell (h : RTb W n₀ g n k B f) {p : Nat} (hp : p < n) : W.cell? ⟨g, p, none⟩ = some (if p < k then .slice (some ⟨B p, 0, none⟩) 2 2 else .slice none 0 0) := by
  rw [h.outer.cellAt p (by omega)]
  simp [rowsC, List.getElem?_map, List.getElem?_range hp]
theorem RTb.free (h : RTb W n₀ g n k B f) (p : Nat) : W.frozen? ⟨g, p, none⟩ = false := h.outer.frozenAt p
theorem RTb.rows (h : RTb W n₀ g n n B f) (hn : n ≤ 1000) : Rows W (.slice (some ⟨g, 0, none⟩) n n) ((List.range n).map f) := by
  refine ⟨some ⟨g, 0, none⟩, n, by simp, by unfold big; simp; omega, fun i hi => ?_⟩
  simp only [List.length_map, List.length_range] at hi
  refine ⟨g, 0, .slice (some ⟨B i, 0, none⟩) 2 2, rfl, ?_, ?_⟩
  · rw [Nat.zero_add, h.cell hi, if_pos hi]
  · have e : ((List.range n).map f).getD i [] = f i := by simp [List.getD_eq_getElem?_getD, List.getElem?_map, List.getElem?_range hi]
    rw [e]; exact h.inner i hi
end
end Go.Proofs.YtphpablchlpagaaDoor
namespace Go.Proofs.YtphpablchlpagaaDoor
open Go.RowKit
def updB (L : Nat → Bool) (i : Nat) : Nat → Bool := fun j => if j = i then true else L j
def updV (u : Nat → Value) (i : Nat) (v : Value) : Nat → Value := fun j => if j = i then v else u j
@[simp] theorem updV_self (u : Nat → Value) (i : Nat) (v : Value) : updV u i v i = v := by simp [updV]
theorem updV_ne {u : Nat → Value} {i j : Nat} {v : Value} (h : j ≠ i) : updV u i v j = u j := by simp [updV, h]
/-- The frame whose operations' slots hold the values u. -/
def framedFrom (a : Act) (u : Nat → Value) : Nat → List Oper → Act
  | _, [] => a
  | i, o :: l => framedFrom (a.put o.dst (u i)) u (i + 1) l
def dstApart (d : Option Tmp) (l : List Oper) : Bool := l.all fun o => match d, o.dst with
  | some x, some y => x != y
  | _, _ => true
def dstsApart : List Oper → Bool
  | [] => true
  | o :: l => dstApart o.dst l && dstsApart l
theorem put_swap (a : Act) (d e : Option Tmp) (x y : Value) (h : ∀ p q, d = some p → e = some q → p ≠ q) : (a.put d x).put e y = (a.put e y).put d x := by
  cases d with
  | none => rfl
  | some p =>
    cases e with
    | none => rfl
    | some q =>
      have hne := h p q rfl rfl
      simp only [Act.put]
      rw [Array.setIfInBounds_comm _ _ hne]
theorem put_twice (a : Act) (d : Option Tmp) (x y : Value) : (a.put d x).put d y = a.put d y := by
  cases d with
  | none => rfl
  | some p => simp [Act.put]
theorem framed_congr {u u' : Nat → Value} : ∀ (l : List Oper) (k : Nat) (a : Act), (∀ j, k ≤ j → u j = u' j) → framedFrom a u k l = framedFrom a u' k l
  | [], _, _, _ => rfl
  | o :: l, k, a, h => by
    show framedFrom (a.put o.dst (u k)) u (k + 1) l = framedFrom (a.put o.dst (u' k)) u' (k + 1) l
    rw [h k (Nat.le_refl _)]
    exact framed_congr l (k + 1) _ (fun j hj => h j (by omega))
theorem framed_put {d : Option Tmp} {v : Value} (u : Nat → Value) : ∀ (l : List Oper) (k : Nat) (a : Act), dstApart d l = true → framedFrom (a.put d v) u k l = (framedFrom a u k l).put d v
  | [], _, _, _ => rfl
  | o :: l, k, a, h => by
    unfold dstApart at h
    rw [List.all_cons, Bool.and_eq_true] at h
    show framedFrom ((a.put d v).put o.dst (u k)) u (k + 1) l = (framedFrom (a.put o.dst (u k)) u (k + 1) l).put d v
    rw [put_swap _ d o.dst _ _ (fun p q hp hq => by
      have h1 := h.1
      rw [hp, hq] at h1
      simpa using h1)]
    exact framed_put u l (k + 1) _ h.2
theorem framed_upd {u : Nat → Value} {v : Value} : ∀ (l : List Oper) (k : Nat) (a : Act), dstsApart l = true → ∀ (i : Nat) (o : Oper), k ≤ i → l[i - k]? = some o → framedFrom a (updV u i v) k l = (framedFrom a u k l).put o.dst v
  | [], _, _, _, i, o, _, ho => by simp at ho
  | p :: l, k, a, h, i, o, hk, ho => by
    unfold dstsApart at h
    rw [Bool.and_eq_true] at h
    by_cases e : i = k
    · subst e
      rw [Nat.sub_self] at ho
      obtain rfl : p = o := by simpa using ho
      show framedFrom (a.put p.dst (updV u i v i)) (updV u i v) (i + 1) l = (framedFrom (a.put p.dst (u i)) u (i + 1) l).put p.dst v
      rw [updV_self, framed_congr (u := updV u i v) (u' := u) l (i + 1) _ (fun j hj => updV_ne (by omega)), ← framed_put u l (i + 1) _ h.1, put_twice]
    · show framedFrom (a.put p.dst (updV u i v k)) (updV u i v) (k + 1) l = (framedFrom (a.put p.dst (u k)) u (k + 1) l).put o.dst v
      rw [updV_ne (show k ≠ i by omega)]
      refine framed_upd l (k + 1) _ h.2 i o (by omega) ?_
      rw [show i - k = (i - (k + 1)) + 1 by omega, List.getElem?_cons_succ] at ho
      exact ho
theorem put_old (a : Act) (d : Option Tmp) (v : Value) (s : Tmp) (h : d ≠ some s) : (a.put d v).tmps.getD s undef = a.tmps.getD s undef := by
  cases d with
  | none => rfl
  | some p =>
    have hne : p ≠ s := fun e => h (by rw [e])
    simp [Act.put, Array.getD_eq_getD_getElem?, Array.getElem?_setIfInBounds, hne]
theorem put_size (a : Act) (d : Option Tmp) (v : Value) : (a.put d v).tmps.size = a.tmps.size := by
  cases d <;> simp [Act.put]
theorem framed_old {u : Nat → Value} {s : Tmp} : ∀ (l : List Oper) (k : Nat) (a : Act), (l.all fun o => o.dst != some s) = true → (framedFrom a u k l).eval (.tmp s) = a.tmps.getD s undef
  | [], _, _, _ => rfl
  | o :: l, k, a, h => by
    rw [List.all_cons, Bool.and_eq_true] at h
    show (framedFrom (a.put o.dst (u k)) u (k + 1) l).eval (.tmp s) = _
    rw [framed_old l (k + 1) _ h.2, put_old _ _ _ _ (by simpa using h.1)]
theorem framed_new {u : Nat → Value} {d : Tmp} : ∀ (l : List Oper) (k : Nat) (a : Act) (i : Nat), dstsApart l = true → d < a.tmps.size → l[i]?.bind (·.dst) = some d → (framedFrom a u k l).eval (.tmp d) = u (k + i)
  | [], _, _, i, _, _, h => by simp at h
  | o :: l, k, a, i, hd, hs, h => by
    unfold dstsApart at hd
    rw [Bool.and_eq_true] at hd
    show (framedFrom (a.put o.dst (u k)) u (k + 1) l).eval (.tmp d) = _
    cases i with
    | zero =>
      have ho : o.dst = some d := by simpa using h
      rw [framed_old l (k + 1) _ (by
        have h1 := hd.1
        unfold dstApart at h1
        rw [ho] at h1
        rw [List.all_eq_true] at h1 ⊢
        intro p hp
        have := h1 p hp
        cases hpd : p.dst with
        | none => rfl
        | some q =>
          rw [hpd] at this
          simp at this ⊢
          exact fun e => this e.symm), ho]
      simp [Act.put, hs]
    | succ i =>
      rw [framed_new l (k + 1) _ i hd.2 (by rw [put_size]; exact hs) (by simpa using h)]
      congr 1
      omega
/-- What the slots held before. -/
def heldBy (a : Act) (l : List Oper) (i : Nat) : Value := match l[i]? with
  | some o => match o.dst with
    | some d => a.tmps.getD d undef
    | none => undef
  | none => undef
theorem put_held (a : Act) (d : Tmp) : a.put (some d) (a.tmps.getD d undef) = a := by
  simp only [Act.put]
  congr 1
  apply Array.ext_getElem?
  intro i
  rw [Array.getElem?_setIfInBounds]
  by_cases h : d = i
  · subst h
    by_cases hb : d < a.tmps.size
    · simp [hb]
    · simp [hb]
  · simp [h]
theorem framed_start (a : Act) : ∀ (l : List Oper) (k : Nat) (l' : List Oper), (∀ j, l[j]? = l'[k + j]?) → framedFrom a (heldBy a l') k l = a
  | [], _, _, _ => rfl
  | o :: l, k, l', h => by
    have h0 : l'[k]? = some o := by simpa using (h 0).symm
    show framedFrom (a.put o.dst (heldBy a l' k)) (heldBy a l') (k + 1) l = a
    have e : a.put o.dst (heldBy a l' k) = a := by
      cases hd : o.dst with
      | none => rfl
      | some d =>
        have e2 : heldBy a l' k = a.tmps.getD d undef := by
          unfold heldBy
          rw [h0]
          simp only [hd]
        rw [e2]; exact put_held a d
    rw [e]
    exact framed_start a l (k + 1) l' (fun j => by have := h (j + 1); simpa [Nat.add_assoc, Nat.add_comm 1 j] using this)
/-- Each operation waits for earlier ones alone. -/
def backFrom : Nat → List Oper → Bool
  | _, [] => true
  | i, o :: l => o.after.all (fun e => !Region.binds .any e || decide (e.on < i)) && backFrom (i + 1) l
theorem backFrom_spec : ∀ (l : List Oper) (k : Nat), backFrom k l = true → ∀ i o, l[i]? = some o → ∀ e ∈ o.after, Region.binds .any e = true → e.on < k + i
  | [], _, _, i, o, ho => by simp at ho
  | p :: l, k, h, i, o, ho => by
    unfold backFrom at h
    rw [Bool.and_eq_true] at h
    cases i with
    | zero =>
      obtain rfl : p = o := by simpa using ho
      intro e he hb
      have := (Array.all_eq_true_iff_forall_mem.1 h.1) e he
      rw [hb] at this
      simpa using this
    | succ i =>
      rw [List.getElem?_cons_succ] at ho
      intro e he hb
      have := backFrom_spec l (k + 1) h.2 i o ho e he hb
      omega
/-- An operation that has a value. -/
theorem op_run {P : Program} {ops : Array Oper} {o : Oper} {F : Act} {w : World} {K : Act → World → Prop} {Q : Exit → Act → World → Prop} {E : Prop} (hg : o.guard = none) (v : Value) (w' : World) (hr : (execOp F.eval o).run P w = .ok (.value v) w') (hK : K (F.put o.dst v) w') :
    if Region.wanted o (yielded ops F.tmps) = true then Oper.wp P o F w K Q else E := by
  rw [if_pos (by simp [Region.wanted, hg])]
  unfold Oper.wp
  rw [hr]
  exact hK
/-- A call of a Go function. -/
theorem op_call {P : Program} {ops : Array Oper} {o : Oper} {F : Act} {w : World} {K : Act → World → Prop} {Q : Exit → Act → World → Prop} {E : Prop} (hg : o.guard = none) (f : FuncId) (args : Array Value) (hr : (execOp F.eval o).run P w = .ok (.enter f args) w) (hC : Calls P f args w fun e w' => ∃ v, e = .returned v ∧ K (F.put o.dst v) w') :
    if Region.wanted o (yielded ops F.tmps) = true then Oper.wp P o F w K Q else E := by
  rw [if_pos (by simp [Region.wanted, hg])]
  unfold Oper.wp
  rw [hr]
  refine hC.mono ?_
  rintro e w' ⟨v, rfl, h⟩
  exact h
/-- An operation that has none. -/
theorem op_skip {P : Program} {ops : Array Oper} {o : Oper} {F : Act} {w : World} {K : Act → World → Prop} {Q : Exit → Act → World → Prop} {E : Prop} (hg : o.guard = none) (w' : World) (hr : (execOp F.eval o).run P w = .ok .skip w') (hK : K (F.put o.dst undef) w') :
    if Region.wanted o (yielded ops F.tmps) = true then Oper.wp P o F w K Q else E := by
  rw [if_pos (by simp [Region.wanted, hg])]
  unfold Oper.wp
  rw [hr]
  exact hK
section
variable {P : Program} {Q : Exit → Act → World → Prop} {a : Act} {l : List Oper} {I : (Nat → Bool) → (Nat → Value) → World → Prop}
/-- What is asked of the operation at i. -/
def InvStep (P : Program) (Q : Exit → Act → World → Prop) (a : Act) (l : List Oper) (I : (Nat → Bool) → (Nat → Value) → World → Prop) (i : Nat) (o : Oper) : Prop :=
  ∀ (L : Nat → Bool) (u : Nat → Value) (w : World), L i = false → (∀ e ∈ o.after, Region.binds .any e = true → L e.on = true) → I L u w →
    ∀ K : Act → World → Prop, (∀ v w', I (updB L i) (updV u i v) w' → K ((framedFrom a u 0 l).put o.dst v) w') →
      if Region.wanted o (yielded l.toArray (framedFrom a u 0 l).tmps) = true then Oper.wp P o (framedFrom a u 0 l) w K Q else K ((framedFrom a u 0 l).put o.dst undef) w
def InvFrom (P : Program) (Q : Exit → Act → World → Prop) (a : Act) (l : List Oper) (I : (Nat → Bool) → (Nat → Value) → World → Prop) : Nat → List Oper → Prop
  | _, [] => True
  | i, o :: r => InvStep P Q a l I i o ∧ InvFrom P Q a l I (i + 1) r
theorem InvFrom.at : ∀ (r : List Oper) (k : Nat), InvFrom P Q a l I k r → ∀ i o, r[i]? = some o → InvStep P Q a l I (k + i) o
  | [], _, _, i, o, ho => by simp at ho
  | p :: r, k, h, i, o, ho => by
    cases i with
    | zero =>
      obtain rfl : p = o := by simpa using ho
      exact h.1
    | succ i =>
      rw [List.getElem?_cons_succ] at ho
      have := InvFrom.at r (k + 1) h.2 i o ho
      rwa [show k + (i + 1) = k + 1 + i by omega]
def unlisted (listed : Array Bool) : Nat := ((List.range listed.size).filter fun j => !listed.getD j true).length
theorem unlisted_set {listed : Array Bool} {i : Nat} (hi : i < listed.size) (h : listed.getD i true = false) : unlisted (listed.setIfInBounds i true) < unlisted listed := by
  unfold unlisted
  rw [Array.size_setIfInBounds]
  have e : (List.range listed.size).filter (fun j => !(listed.setIfInBounds i true).getD j true) = ((List.range listed.size).filter fun j => !listed.getD j true).filter fun j => j != i := by
    rw [List.filter_filter]
    refine List.filter_congr fun j hj => ?_
    have hj := List.mem_range.1 hj
    by_cases e : j = i
    · subst e; simp [hi]
    · simp [Array.getElem?_setIfInBounds, show ¬ i = j from fun h => e h.symm, e]
  rw [e]
  exact List.length_filter_lt_length_iff_exists.2 ⟨i, List.mem_filter.2 ⟨List.mem_range.2 hi, by rw [h]; rfl⟩, by simp⟩
theorem inv_any (hb : backFrom 0 l = true) (hd : dstsApart l = true) (hs : InvFrom P Q a l I 0 l) (hend : ∀ L u w, (∀ i, i < l.length → L i = true) → I L u w → Q .normal (framedFrom a u 0 l) w) :
    ∀ (fuel : Nat) (listed : Array Bool) (u : Nat → Value) (w : World), listed.size = l.length → unlisted listed ≤ fuel → I (fun j => listed.getD j false) u w → wpAny P .any l.toArray Q fuel listed (framedFrom a u 0 l) w := by
  have hdone : ∀ (listed : Array Bool) (u : Nat → Value) (w : World), listed.size = l.length → Region.ready .any l.toArray listed = [] → I (fun j => listed.getD j false) u w → Q .normal (framedFrom a u 0 l) w := fun listed u w hsz hr hI => by
    refine hend _ u w (fun i => ?_) hI
    induction i using Nat.strongRecOn with
    | _ i ih =>
      intro hi
      apply Classical.byContradiction
      intro hne
      have hif : listed.getD i true = false := by
        have hi2 : i < listed.size := by omega
        simp [hi2] at hne ⊢
        exact hne
      have : i ∈ Region.ready .any l.toArray listed := mem_ready.2 ⟨hif, l[i], by simp [hi], fun e he hbd => by
        have h1 := backFrom_spec l 0 hb i l[i] (by simp [hi]) e he hbd
        exact ih e.on (by omega) (by omega)⟩
      rw [hr] at this
      cases this
  intro fuel
  induction fuel with
  | zero =>
    intro listed u w hsz hun hI
    have hr : Region.ready .any l.toArray listed = [] := by
      apply List.eq_nil_iff_forall_not_mem.2
      intro i hi
      obtain ⟨h1, o, h2, -⟩ := mem_ready.1 hi
      have hil : i < listed.size := by
        have := (Array.getElem?_eq_some_iff.1 h2).1
        simp at this; omega
      have := List.length_pos_of_mem (List.mem_filter.2 ⟨List.mem_range.2 hil, by rw [h1]; rfl⟩ : i ∈ (List.range listed.size).filter fun j => !listed.getD j true)
      unfold unlisted at hun
      omega
    exact ⟨hr, hdone listed u w hsz hr hI⟩
  | succ fuel ih =>
    intro listed u w hsz hun hI
    refine ⟨fun hr => hdone listed u w hsz hr hI, fun i hi => ?_⟩
    obtain ⟨h1, o, h2, h3⟩ := mem_ready.1 hi
    have hil : i < listed.size := by
      have := (Array.getElem?_eq_some_iff.1 h2).1
      simp at this; omega
    have h2' : l[i]? = some o := by simpa using h2
    have hst := InvFrom.at l 0 hs i o h2'
    rw [Nat.zero_add] at hst
    have hLi : listed.getD i false = false := by
      simp [hil] at h1 ⊢
      exact h1
    have key := hst (fun j => listed.getD j false) u w hLi (fun e he hbd => h3 e he hbd) hI (wpAny P .any l.toArray Q fuel (listed.setIfInBounds i true)) (fun v w' hI' => by
      rw [← framed_upd l 0 a hd i o (Nat.zero_le _) (by simpa using h2')]
      refine ih _ _ _ (by simpa using hsz) (by have := unlisted_set hil h1; omega) ?_
      have e : (fun j => (listed.setIfInBounds i true).getD j false) = updB (fun j => listed.getD j false) i := by
        funext j
        unfold updB
        by_cases e : j = i
        · subst e; simp [hil]
        · simp [Array.getElem?_setIfInBounds, show ¬ i = j from fun h => e h.symm, e]
      rw [e]; exact hI')
    unfold wpOp
    rw [h2]
    simp only
    split
    · rename_i hw; rw [if_pos hw] at key; exact .inl key
    · rename_i hw; rw [if_neg hw] at key; exact key
theorem wp_region_inv {id : Nat} {w : World} (hm : P.follows .mixedOrders = true) (hb : backFrom 0 l = true) (hd : dstsApart l = true) (h0 : I (fun _ => false) (heldBy a l) w.drew) (hs : InvFrom P Q a l I 0 l) (hend : ∀ L u w, (∀ i, i < l.length → L i = true) → I L u w → Q .normal (framedFrom a u 0 l) w) :
    (Code.region id l.toArray true).wp P Q a w := by
  refine wp_region_any hm ?_
  have h1 := inv_any hb hd hs hend l.toArray.size (Array.replicate l.toArray.size false) (heldBy a l) w.drew (by simp) (by
    unfold unlisted
    have := List.length_filter_le (fun j => !(Array.replicate l.toArray.size false).getD j true) (List.range (Array.replicate l.toArray.size false).size)
    simpa using this) (by
    have e : (fun j => (Array.replicate l.toArray.size false).getD j false) = fun _ => false := by
      funext j
      simp [Array.getElem?_replicate]
      split <;> rfl
    rw [e]; exact h0)
  rw [framed_start a l 0 l (fun j => by rw [Nat.zero_add])] at h1
  exact h1
end
end Go.Proofs.YtphpablchlpagaaDoor
