/-
  The string of an automaton.
-/
import Derived.Test.YtibaihchnbbokaaDoorR1
import Derived.Test.YtibaihchnbbokaaDoorShelf
namespace Go.Proofs.YtibaihchnbbokaaDoor
open Go.RowKit Go.Shelf

def strB (l : List UInt8) : ByteArray := ⟨l.toArray⟩
def rowText (r : List Int) : List UInt8 := Lib.join (r.map fun x => Lib.decDigits x.toNat) [46]
def textM (m : List (List Int)) : List UInt8 := Lib.join (m.map rowText) [32]

/-- A row of strings of which the first k are written. -/
def someStr (n k : Nat) (f : Nat → List UInt8) : List Value := (List.range n).map fun i => .string (if i < k then strB (f i) else ⟨#[]⟩)
theorem someStr_length (n k : Nat) (f : Nat → List UInt8) : (someStr n k f).length = n := by simp [someStr]
theorem someStr_set (n k : Nat) (f : Nat → List UInt8) (hk : k < n) : (someStr n k f).set k (.string (strB (f k))) = someStr n (k + 1) f := by
  apply List.ext_getElem
  · simp [someStr]
  · intro i h1 h2
    have hi : i < n := by simpa [someStr] using h2
    rw [List.getElem_set]
    by_cases e : k = i
    · subst e; simp [someStr]
    · rw [if_neg e]
      simp only [someStr, List.getElem_map, List.getElem_range]
      by_cases h : i < k
      · rw [if_pos h, if_pos (by omega)]
      · rw [if_neg h, if_neg (by omega)]
theorem someStr_get (n k : Nat) (f : Nat → List UInt8) (j : Nat) (hj : j < n) (hk : j < k) : (someStr n k f)[j]? = some (.string (strB (f j))) := by
  simp [someStr, List.getElem?_map, hj, hk]
theorem someStr_made (n : Nat) (f : Nat → List UInt8) : (madeCells #[.string ⟨#[]⟩] (n * 1)).toList = someStr n 0 f := by
  apply List.ext_getElem
  · simp [someStr, madeCells]
  · intro i h1 h2
    simp [someStr, madeCells, Nat.mod_one]

theorem infoStr : (Tryd.prog.info? 9).map (fun i => (i.zero, i.size, i.bytes)) = some (some (.string ⟨#[]⟩), 1, 16) := by kernel_rfl

theorem dec_len (u : Nat) (h : u < 100) : (Lib.decDigits u).length ≤ 2 := by
  rw [Lib.decDigits]
  split
  · simp
  · rw [Lib.decDigits, dif_pos (by omega)]; simp
theorem lens_le (xs : List (List UInt8)) (c : Nat) (h : ∀ x ∈ xs, x.length ≤ c) : Lib.lens xs ≤ xs.length * c := by
  induction xs with
  | nil => simp [Lib.lens]
  | cons x xs ih =>
    have h1 := h x (by simp)
    have h2 := ih (fun y hy => h y (by simp [hy]))
    simp [Lib.lens, Nat.add_mul] at *
    omega
theorem join_le (xs : List (List UInt8)) (sep : List UInt8) (c : Nat) (h : ∀ x ∈ xs, x.length ≤ c) : (Lib.join xs sep).length ≤ xs.length * (c + sep.length) := by
  cases xs with
  | nil => simp [Lib.join_nil]
  | cons x r =>
    rw [Lib.join_length]
    have := lens_le (x :: r) c h
    simp only [List.length_cons] at *
    rw [Nat.mul_add, Nat.add_mul r.length 1 sep.length, Nat.mul_comm sep.length r.length]
    omega
theorem rowText_le (r : List Int) (h : ∀ x ∈ r, x < 100) : (rowText r).length ≤ r.length * 3 := by
  have := join_le (r.map fun x => Lib.decDigits x.toNat) [46] 2 (by
    intro y hy
    obtain ⟨x, hx, rfl⟩ := List.mem_map.1 hy
    exact dec_len _ (by have := h x hx; omega))
  simpa [rowText] using this
theorem strs_map (n : Nat) (f : Nat → List UInt8) : ((List.range n).map fun j => strB (f j)).map (·.data.toList) = (List.range n).map f := by
  simp [strB, Function.comp_def]
theorem row_strs (r : List Int) : (List.range r.length).map (fun j => Lib.decDigits (r.getD j 0).toNat) = r.map fun x => Lib.decDigits x.toNat := by
  apply List.ext_getElem
  · simp
  · intro i h1 h2
    have : i < r.length := by simpa using h2
    simp [List.getD_eq_getElem?_getD, List.getElem?_eq_getElem this]
theorem rows_strs (m : List (List Int)) : (List.range m.length).map (fun j => rowText (m.getD j [])) = m.map rowText := by
  apply List.ext_getElem
  · simp
  · intro i h1 h2
    have : i < m.length := by simpa using h2
    simp [List.getD_eq_getElem?_getD, List.getElem?_eq_getElem this]

/-- Join over a row of strings that is written whole. -/
theorem join_row (w : World) (B g n : Nat) (f : Nat → List UInt8) (sep : ByteArray) (h : w.ownsRow B 9 1 (.slice (some ⟨g, 0, none⟩) n n) n (someStr n n f)) (hn : n ≤ 1000) (hs : sep.data.toList.length = 1) (hf : ∀ i, i < n → (f i).length ≤ 1000) (hg : g < w.heap.size) :
    Calls Tryd.prog 90 #[.slice (some ⟨g, 0, none⟩) n n, .string sep] w fun e w' => e = .returned (.string (strB (Lib.join ((List.range n).map f) sep.data.toList))) ∧ Below w.heap.size w w' := by
  have hl : ((List.range n).map f).length = n := by simp
  have hj := Tryd.strings_Join g 0 n ((List.range n).map fun j => strB (f j)) sep w (by
    intro j x hx
    have hjn : j < n := by
      have := (List.getElem?_eq_some_iff.1 hx).1
      simpa using this
    rw [Nat.zero_add, h.cellAt j (by omega)]
    simp [hjn] at hx
    subst hx
    exact someStr_get n n f j hjn hjn) hg (by simp; omega) (by simp) (by
      rw [strs_map]
      have := join_le ((List.range n).map f) sep.data.toList 1000 (by
        intro x hx
        obtain ⟨i, hi, rfl⟩ := List.mem_map.1 hx
        exact hf i (by simpa using hi))
      rw [hl, hs] at this
      have : n * 1001 ≤ 1000 * 1001 := Nat.mul_le_mul_right _ hn
      omega)
  rw [strs_map] at hj
  simpa [strB] using hj

theorem owns_lt {w : World} {B g n c k : Nat} {e : TypeId} {s : Nat} {xs : List Value} (h : w.ownsRow B e s (.slice (some ⟨g, 0, none⟩) n c) k xs) : g < w.heap.size := by
  rcases h.2 with ⟨h', _⟩ | ⟨g', cap', cur, h', _, hg, _⟩
  · simp at h'
  · simp only [Value.slice.injEq, Option.some.injEq, Addr.mk.injEq, and_true, true_and] at h'
    obtain ⟨rfl, _⟩ := h'
    exact lt_of_block hg
theorem owns_below {B g n c k : Nat} {e : TypeId} {s : Nat} {xs : List Value} {w w' : World} (h : w.ownsRow B e s (.slice (some ⟨g, 0, none⟩) n c) k xs) {C : Nat} (hb : Below C w w') (hg : g < C) : w'.ownsRow B e s (.slice (some ⟨g, 0, none⟩) n c) k xs := by
  obtain ⟨h1, h2⟩ := h
  refine ⟨h1, ?_⟩
  rcases h2 with ⟨h', _⟩ | ⟨g', cap', cur, h', hB, hh, r⟩
  · simp at h'
  · simp only [Value.slice.injEq, Option.some.injEq, Addr.mk.injEq, and_true, true_and] at h'
    obtain ⟨rfl, rfl, rfl⟩ := h'
    exact .inr ⟨g, c, cur, rfl, hB, by rw [hb.block g hg]; exact hh, r⟩

theorem getD_elem (l : List Int) (j : Nat) (hj : j < l.length) : l.getD j 0 = l[j] := by simp [List.getD_eq_getElem?_getD, List.getElem?_eq_getElem hj]
theorem getD_row (m : List (List Int)) (i : Nat) (hi : i < m.length) : m.getD i [] ∈ m := by
  simp [List.getD_eq_getElem?_getD, List.getElem?_eq_getElem hi]

set_option maxRecDepth 100000 in
set_option maxHeartbeats 2000000 in
theorem text_any (v : Value) (m : List (List Int)) (w : World) (h : Rows w v m) (hv : validM m = true) :
    Calls Tryd.prog 68 #[.agg #[v]] w fun e w' => e = .returned (.string (strB (textM m))) ∧ Below w.heap.size w w' := by
  obtain ⟨i0, hi, hz0, hz1, hz2⟩ := info_parts infoStr
  obtain ⟨p1, p2, p3, p4, p5⟩ := valid_parts hv
  have P5 := hid p5
  clear p5
  obtain ⟨A, cap, rfl, hml, hc⟩ := h
  obtain ⟨b, off, r0, hA, hcell0, hr0⟩ := hc 0 (by omega)
  subst hA
  clear hr0
  have hbl : b < w.heap.size := World.block_lt_of_cell? _ _ hcell0
  have Hc := hid hc
  clear hc hcell0
  go_enter Tryd.func68, Tryd.ntmps68
  go_wp2_with (at_make; refine wpList_make_full _ rfl _ _ 84 rfl (w.heap.size + 1) 9 i0 (.string ⟨#[]⟩) 1 Tryd.underlying84 hi hz0 hz1 .i64 .i64 _ _ m.length rfl rfl rfl rfl (by rw [hz2]; omega) (by unfold maxLen; omega) (by simp) ?_; intro w1 hown hgrow; have hb1 := hid ((Below.refl (w.heap.size + 1) _).grown hgrow (by simp) (fun k e => by cases e)); have hbx : w1.cell? ⟨w.heap.size, 0, none⟩ = some (.slice (some ⟨b, off, none⟩) m.length cap) := (hb1.out.cell (by simp)).trans (by simp); have hb : Below w.heap.size w w1 := (bal (Below.refl _ _) _).trans (hb1.out.mono (by omega)); have hsz1 : w.heap.size + 1 ≤ w1.heap.size := by { have := hb1.out.size; simpa using this }; have hown1 : w1.ownsRow (w.heap.size + 1) 9 1 (.slice (some ⟨w.heap.size + 1, 0, none⟩) m.length m.length) m.length (someStr m.length 0 fun i => rowText (m.getD i [])) := (by have h := hown; rw [show Value.cells (.string ⟨#[]⟩) = #[.string ⟨#[]⟩] from rfl, someStr_made m.length fun i => rowText (m.getD i [])] at h; simpa using h); clear hown hgrow)
  go_loopw [16] (fun i wr => ∃ k : Nat, k ≤ m.length ∧ i = .int .i64 k ∧ Below (w.heap.size + 1) w1 wr ∧ wr.ownsRow (w.heap.size + 1) 9 1 (.slice (some ⟨w.heap.size + 1, 0, none⟩) m.length m.length) m.length (someStr m.length k fun i => rowText (m.getD i []))) (fun i _ => m.length - (intOf i).toNat)
  case atStart => exact ⟨0, Nat.zero_le _, rfl, Below.refl _ _, hown1⟩
  case round =>
    obtain ⟨k, hk, rfl, hB, hown⟩ := hrel
    by_cases hlt : k < m.length
    · obtain ⟨b', off', r, hA', hcell, hrow⟩ := Hc.out k hlt
      cases hA'
      have hBw : Below w.heap.size w wr := hb.trans (hB.mono (Nat.le_succ _))
      have hrowc : wr.cell? ⟨b, off + k, none⟩ = some r := (hBw.cell (p := ⟨b, off + k, none⟩) hbl).trans hcell
      have hroww := hrow.below hBw
      have Hh := hid hrow
      clear hrow hcell
      obtain ⟨Ar, capr, rfl, hlr, hcr⟩ := hroww
      have hrl := (P5.out k hlt).1
      have hrb := hid (P5.out k hlt).2
      generalize hrw : m.getD k [] = row at *
      have Hcr := hid hcr
      have Hrw := hid hrw
      clear hcr hrw
      have hsz : w.heap.size + 1 ≤ wr.heap.size := Nat.le_trans hsz1 hB.size
      obtain ⟨wo, rfl⟩ : ∃ wo : World, wo = wr := ⟨_, rfl⟩
      go_wp2_with (at_make; refine wpList_make_full _ rfl _ _ 84 rfl wo.heap.size 9 i0 (.string ⟨#[]⟩) 1 Tryd.underlying84 hi hz0 hz1 .i64 .i64 _ _ (letters m) rfl rfl rfl rfl (by rw [hz2]; omega) (by unfold maxLen; omega) (by simp) ?_; intro w2 hown2 hgrow2; have hb2 := (Below.refl wo.heap.size wo).grown hgrow2 (Nat.le_refl _) (fun k e => by cases e); have hown3 : w2.ownsRow wo.heap.size 9 1 (.slice (some ⟨wo.heap.size, 0, none⟩) (letters m) (letters m)) (letters m) (someStr (letters m) 0 fun j => Lib.decDigits (row.getD j 0).toNat) := (by have h := hown2; rw [show Value.cells (.string ⟨#[]⟩) = #[.string ⟨#[]⟩] from rfl, someStr_made (letters m) fun j => Lib.decDigits (row.getD j 0).toNat] at h; exact h); clear hown2 hgrow2)
      go_loopw [26] (fun i wi => ∃ x : Nat, x ≤ letters m ∧ i = .int .i64 x ∧ Below wo.heap.size wo wi ∧ wi.ownsRow wo.heap.size 9 1 (.slice (some ⟨wo.heap.size, 0, none⟩) (letters m) (letters m)) (letters m) (someStr (letters m) x fun j => Lib.decDigits (row.getD j 0).toNat)) (fun i _ => letters m - (intOf i).toNat)
      case atStart => exact ⟨0, Nat.zero_le _, rfl, hb2, hown3⟩
      case round =>
        obtain ⟨x, hx, rfl, hB2, hown2⟩ := hrel
        by_cases hxl : x < letters m
        · obtain ⟨br, offr, hAr, hcellr⟩ := Hcr.out x (by rw [hrl]; exact hxl)
          subst hAr
          have hbrl : br < wo.heap.size := World.block_lt_of_cell? _ _ hcellr
          have hcellx : wr.cell? ⟨br, offr + x, none⟩ = some (.int .i64 (row.getD x 0)) := (hB2.cell (p := ⟨br, offr + x, none⟩) hbrl).trans hcellr
          have hdig := hrb.out x hxl
          obtain ⟨q, hq⟩ : ∃ q : Nat, row.getD x 0 = q := ⟨(row.getD x 0).toNat, by omega⟩
          have hq100 : q < 100 := by omega
          have Hq := hid hq
          rw [hq] at hcellx
          clear hcellr hdig hq
          have hfz := hown2.frozenAt x
          have hce : wr.cell? ⟨wo.heap.size, x, none⟩ = some (.string ⟨#[]⟩) := by rw [hown2.cellAt x (by omega)]; simp [someStr, hxl]
          have ⟨hst1, hst2⟩ := hown2.stored x (.string (strB (Lib.decDigits q)))
          go_wp2_with fail
          refine (Tryd.strconv_Itoa_small q hq100 _).mono ?_
          rintro e w' ⟨rfl, rfl⟩
          go_wp2
          go_roundw
          case rel =>
            refine ⟨x + 1, by omega, by go_num, hB2.setCell (Nat.le_refl _) _, ?_⟩
            rw [← someStr_set _ _ _ hxl, show (row.getD x 0).toNat = q by have := Hq.out; omega]
            exact hst1
          case measure => simp [intOf]; omega
        · obtain rfl : x = letters m := by omega
          have hgl : wo.heap.size < wr.heap.size := owns_lt hown2
          have hj : Calls Tryd.prog 90 #[.slice (some ⟨wo.heap.size, 0, none⟩) (letters m) (letters m), .string ⟨#[46]⟩] wr fun e w' => e = .returned (.string (strB (rowText row))) ∧ Below wr.heap.size wr w' := by
            have h := join_row wr wo.heap.size wo.heap.size (letters m) _ ⟨#[46]⟩ hown2 (by omega) rfl (fun i hi => by have := dec_len (row.getD i 0).toNat (by have := hrb.out i hi; omega); omega) hgl
            have e : (List.range (letters m)).map (fun j => Lib.decDigits (row.getD j 0).toNat) = row.map fun x => Lib.decDigits x.toNat := by rw [← hrl]; exact row_strs row
            rw [e] at h
            exact h
          go_wp2_with fail
          refine hj.mono ?_
          rintro e w4 ⟨rfl, hb4⟩
          have hb04 : Below wo.heap.size wo w4 := hB2.trans (hb4.mono (Nat.le_of_lt hgl))
          have hol := owns_lt hown
          have hown4 := owns_below hown hb04 hol
          have hfz := hown4.frozenAt k
          have hce : w4.cell? ⟨w.heap.size + 1, k, none⟩ = some (.string ⟨#[]⟩) := by rw [hown4.cellAt k (by omega)]; simp [someStr, hlt]
          have ⟨hst1, hst2⟩ := hown4.stored k (.string (strB (rowText row)))
          clear hown2
          go_wp2
          go_roundw
          case rel =>
            refine ⟨k + 1, by omega, by go_num, (hB.trans (hb04.mono hsz)).setCell (Nat.le_refl _) _, ?_⟩
            rw [← someStr_set _ _ _ hlt, Hrw.out]
            exact hst1
          case measure => simp [intOf]; omega
    · obtain rfl : k = m.length := by omega
      have hgl : w.heap.size + 1 < wr.heap.size := owns_lt hown
      have hj : Calls Tryd.prog 90 #[.slice (some ⟨w.heap.size + 1, 0, none⟩) m.length m.length, .string ⟨#[32]⟩] wr fun e w' => e = .returned (.string (strB (textM m))) ∧ Below wr.heap.size wr w' := by
        have h := join_row wr _ _ m.length _ ⟨#[32]⟩ hown (by omega) rfl (fun i hi => by
          have := rowText_le (m.getD i []) (fun x hx => by
            obtain ⟨j, hj, rfl⟩ := List.mem_iff_getElem.1 hx
            have h1 := (P5.out i hi).2 j (by have := (P5.out i hi).1; omega)
            rw [getD_elem (m.getD i []) j hj] at h1
            omega)
          have := (P5.out i hi).1
          omega) hgl
        rw [rows_strs] at h
        exact h
      go_wp2_with fail
      refine hj.mono ?_
      rintro e w4 ⟨rfl, hb4⟩
      go_wp2
      go_ret
      exact ⟨rfl, (hb.trans (hB.mono (Nat.le_succ _))).trans (hb4.mono (by omega))⟩
end Go.Proofs.YtibaihchnbbokaaDoor
