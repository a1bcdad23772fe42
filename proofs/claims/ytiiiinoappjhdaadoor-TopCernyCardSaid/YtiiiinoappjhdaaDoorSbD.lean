/-
  Texts that the proof of the law stands on: W, V, O2, G4, Y24, Y25.
-/
import Derived.Test.YtiiiinoappjhdaaDoorSbC
import Derived.WalkKit
import Derived.ProofKit
import Derived.OpenShut
import Derived.Deep.DeepHandedRow
import Derived.Deep.DeepWitnessRowRef
import Derived.Lib.LaidTab
import Derived.Lib.LaidIn
import Derived.Lib.ItoaNum
import Derived.WideKeyArgs
import Derived.Test.YtiiiinoappjhdaaDoorRows
import Derived.Deep.CutRange
import Derived.Deep.RegionHeld3
namespace Go.Proofs.YtiiiinoappjhdaaDoor
open Go.ChangeShapes Go.WideShapes Go.ChangeAt Go.RowKit
theorem own : ownKnob Tryd.prog.godebug = none := by kernel_rfl
theorem gTab : Tryd.prog.globalNamed "math/bits.deBruijn64tab" = some 0 := by kernel_rfl
theorem gTabType : (Tryd.prog.globals[0]?).map (·.type) = some 101 := by kernel_rfl
theorem cellsTab : Tryd.prog.cellsOf 101 = 64 := by kernel_rfl
theorem cellsU8 : Tryd.prog.cellsOf 5 = 1 := by kernel_rfl
section
variable {H : Type} {enc : TypeId × Value → H}
/-- All arguments read as they did. -/
theorem TrodAll_stays {P : Program} (hl : laidOutB P = true) {W W' : World} {sp : Nat → Bool} : ∀ {ts : List TypeId} {vs : List Value} {ds : List (DataW H)} {ps : List MemPlace},
    (∀ t ∈ ts, P.readableRec t = true ∧ t < P.types.size) → DataW.TrodAll enc P W 0 (fun _ => true) true ts vs ds ps → (∀ x ∈ ps, W.sameAt W' x) → (∀ x ∈ ps, sp x.block = true) → DataW.TrodAll enc P W' 0 sp true ts vs ds ps
  | [], vs, ds, ps, _, h, _, _ => by cases vs <;> cases ds <;> simp_all [DataW.TrodAll]
  | t :: ts, vs, ds, ps, ht, h, hs, hsp => by
    obtain ⟨v, vs', d, ds', p, q, rfl, rfl, rfl, h0, r0⟩ := trodAll_cons h
    exact trodAll_cons_mk (WideElems.Trod_stays hl (ht t (by simp)).1 (ht t (by simp)).2 h0 (fun x hx => hs x (List.mem_append_left _ hx)) (fun x hx => hsp x (List.mem_append_left _ hx)))
      (TrodAll_stays hl (fun u hu => ht u (by simp [hu])) r0 (fun x hx => hs x (List.mem_append_right _ hx)) (fun x hx => hsp x (List.mem_append_right _ hx)))
end
end Go.Proofs.YtiiiinoappjhdaaDoor
namespace Go.Proofs.YtiiiinoappjhdaaDoor
open Go.ChangeShapes Go.WideShapes Go.ChangeAt Go.RowKit
noncomputable def laidWorld2 (os : Os) : World :=
  let w0 := World.holding Tryd.prog os ⟨#[], #[], []⟩
  let put (h : Array Obj) (g : Nat) (cs : Array Value) : Array Obj := h.modify g fun
    | .cells _ t frozen => .cells cs t frozen
    | o => o
  { w0 with heap := put w0.heap 0 (Lib.deBruijn64tab.map fun z : Nat => Value.int .u8 z).toArray }
set_option maxRecDepth 1000000 in
theorem laid_met2 (os : Os) (args : Array Value) : laidMet Tryd.prog Rows.shortFindsRow.laid ((laidWorld2 os).forCall (fun _ _ => 0) ⟨#[], args, []⟩).memory :=
  (LaidIn.of_run (l := Rows.shortFindsRow.laid) [0] 8 (by kernel_rfl) (by kernel_rfl) (by kernel_rfl) (by kernel_rfl)).met
/-- The table of the least bit, out of the list. -/
theorem tab_of2 {W : World} (h : laidMetH Tryd.prog Rows.shortFindsRow.laid W) : Tab W := by
  have h1 : laidMet Tryd.prog Rows.shortFindsRow.laid W := h
  have h2 : laidMet Tryd.prog (("math/bits.deBruijn64tab", Lib.tabData .u8 (Lib.deBruijn64tab.map fun x : Nat => (x : Int))) :: Rows.shortFindsRow.laid.drop 1) W := h1
  have h3 := Lib.tabIs_of_head gTab gTabType Tryd.underlying101 Tryd.underlying5 cellsU8 cellsTab h2
  intro j hj
  have h4 := h3.cell gTab j (by rw [List.length_map]; exact hj)
  rw [h4]
  have e : j < Lib.deBruijn64tab.length := hj
  simp [List.getD_eq_getElem?_getD, List.getElem?_eq_getElem e]
end Go.Proofs.YtiiiinoappjhdaaDoor
namespace Go.Proofs.YtiiiinoappjhdaaDoor
open Go.RowKit Go.Deep Go.ChangeShapes Go.WideShapes
/-- A slice of slices of ints, where a nil row has no room. -/
def RowsN (w : World) (v : Value) (m : List (List Int)) : Prop :=
  ∃ A cap, v = .slice A m.length cap ∧ m.length ≤ big ∧ ∀ i, i < m.length → ∃ b off Ar c, A = some ⟨b, off, none⟩ ∧ w.cell? ⟨b, off + i, none⟩ = some (.slice Ar (m.getD i []).length c) ∧ Ints w (.slice Ar (m.getD i []).length c) (m.getD i []) ∧ (Ar = none → c = 0)
theorem RowsN.rows {w : World} {v : Value} {m : List (List Int)} (h : RowsN w v m) : Rows w v m := by
  obtain ⟨A, cap, hv, hl, hc⟩ := h
  refine ⟨A, cap, hv, hl, fun i hi => ?_⟩
  obtain ⟨b, off, Ar, c, hA, hcell, hr, _⟩ := hc i hi
  exact ⟨b, off, _, hA, hcell, hr⟩
theorem RowsN.below {w w' : World} {v : Value} {m : List (List Int)} (h : RowsN w v m) (hb : Below w.heap.size w w') : RowsN w' v m := by
  obtain ⟨A, cap, hv, hl, hc⟩ := h
  refine ⟨A, cap, hv, hl, fun i hi => ?_⟩
  obtain ⟨b, off, Ar, c, hA, hcell, hr, hn⟩ := hc i hi
  exact ⟨b, off, Ar, c, hA, (hb.cell (p := ⟨b, off + i, none⟩) (World.block_lt_of_cell? _ _ hcell)).trans hcell, hr.below hb, hn⟩
section
variable {H : Type} {enc : TypeId × Value → H} {W : World} {base : Nat}
end
end Go.Proofs.YtiiiinoappjhdaaDoor
namespace Go.Proofs.YtiiiinoappjhdaaDoor
open Go.RowKit Go.Shelf
/-- A list's beginning. -/
theorem Ints.take {w : World} {A : Option Addr} {c : Nat} {l : List Int} (h : Ints w (.slice A l.length c) l) {k : Nat} (hk : k ≤ l.length) (d : Nat) : Ints w (.slice A k d) (l.take k) := by
  obtain ⟨A', c', hv, hl, hc⟩ := h
  simp only [Value.slice.injEq] at hv
  obtain ⟨rfl, -, rfl⟩ := hv
  have hlk : (l.take k).length = k := by simp; omega
  refine ⟨A, d, by rw [hlk], by omega, fun i hi => ?_⟩
  obtain ⟨b, off, hA, hcell⟩ := hc i (by omega)
  refine ⟨b, off, hA, ?_⟩
  rw [hcell]
  congr 2
  simp only [List.getD_eq_getElem?_getD, List.getElem?_take]
  rw [if_pos (by omega)]
end Go.Proofs.YtiiiinoappjhdaaDoor
namespace Go.Proofs.YtiiiinoappjhdaaDoor
open Go.RowKit Go.Shelf
set_option maxRecDepth 100000 in
set_option maxHeartbeats 1000000 in
theorem tSameInts_any (v u : Value) (l m : List Int) (w : World) (h : Ints w v l) (hu : Ints w u m) :
    Calls Tryd.prog 54 #[v, u] w fun e w' => e = .returned (.bool (decide (l = m))) ∧ Below w.heap.size w w' := by
  obtain ⟨A, cap, rfl, hl, hc⟩ := h
  obtain ⟨Au, capu, rfl, hlu, hcu⟩ := hu
  unfold big at hl hlu
  by_cases hlen : l.length = m.length
  · have hne : ((l.length : Int) != (m.length : Int)) = false := by simp; omega
    have Hlen := hid hlen
    clear hlen
    go_enter Tryd.func54, Tryd.ntmps54
    go_wp2
    go_loopw [5] (fun i wr => ∃ k : Nat, k ≤ l.length ∧ i = .int .i64 k ∧ l.take k = m.take k ∧ Below w.heap.size w wr) (fun i _ => l.length - (intOf i).toNat)
    case atStart => exact ⟨0, Nat.zero_le _, rfl, rfl, Below.refl _ _⟩
    case round =>
      obtain ⟨k, hk, rfl, htk, hB⟩ := hrel
      have Htk := hid htk
      clear htk
      by_cases hlt : k < l.length
      · have hle := Hlen.out
        obtain ⟨b, off, hA, hcell⟩ := hc k hlt
        obtain ⟨b', off', hA', hcell'⟩ := hcu k (by omega)
        subst hA
        subst hA'
        have c1 := (hB.cell (p := ⟨b, off + k, none⟩) (World.block_lt_of_cell? _ _ hcell)).trans hcell
        have c2 := (hB.cell (p := ⟨b', off' + k, none⟩) (World.block_lt_of_cell? _ _ hcell')).trans hcell'
        have Hs := hid (fun hx => take_eq_succ hlt Hlen.out Htk.out hx)
        have Hf := hid (fun hx => ne_of_getD (l := l) (m := m) (k := k) hx)
        have i1 : (k : Int) < l.length := by omega
        have i2 : (k : Int) < m.length := by omega
        clear hc hcu hcell hcell' hle
        generalize l.getD k 0 = x at *
        generalize m.getD k 0 = y at *
        by_cases hxy : x = y
        · have hd : (x != y) = false := by simp [hxy]
          have Hxy := hid hxy
          clear hxy
          go_wp2_with fail
          go_quiet (fail)
          go_wp2
          go_roundw
          case rel => exact ⟨k + 1, by omega, by go_num, Hs.out Hxy.out, bdr hB _⟩
          case measure => simp [intOf]; omega
        · have hd : (x != y) = true := by simp [hxy]
          have Hxy := hid hxy
          clear hxy
          go_wp2_with fail
          go_quiet (fail)
          go_wp2
          go_ret
          exact ⟨ret_bool (Hf.out Hxy.out).symm, bdr hB _⟩
      · go_wp2
        go_ret
        have h1 := Htk.out
        have h2 := Hlen.out
        rw [List.take_of_length_le (by omega), List.take_of_length_le (by omega)] at h1
        exact ⟨ret_bool (by simp [h1]), hB⟩
  · have hne : ((l.length : Int) != (m.length : Int)) = true := by simp; omega
    have Hlen := hid hlen
    clear hlen
    go_enter Tryd.func54, Tryd.ntmps54
    go_wp2
    go_ret
    exact ⟨ret_bool (by
      symm
      rw [decide_eq_false_iff_not]
      intro h
      exact Hlen.out (by rw [h])), Below.refl _ _⟩
set_option maxRecDepth 100000 in
set_option maxHeartbeats 1000000 in
theorem tShortens_any (w : World) (hT : Tab w) :
    Calls Tryd.prog 28 #[] w fun e w' => e = .returned (.bool true) ∧ Below w.heap.size w w' := by
  have hR := lit_rows w 1 0 2 1 0 0
  have hB := bal (bal (bal (bal (Below.refl _ w) (.cells #[.int .i64 1, .int .i64 0] 3)) (.cells #[.int .i64 2, .int .i64 1] 3)) (.cells #[.int .i64 0, .int .i64 0] 3)) (.cells #[.slice (some ⟨w.heap.size, 0, none⟩) 2 2, .slice (some ⟨w.heap.size + 1, 0, none⟩) 2 2, .slice (some ⟨w.heap.size + 1 + 1, 0, none⟩) 2 2] 25)
  rw [← c3_rows] at hR
  go_enter Tryd.func28, Tryd.ntmps28
  go_wp2_with fail
  refine (shortest_c3 _ _ (hT.on hB) hR).mono ?_
  rintro e w1 ⟨A, c, rfl, hI, h1⟩
  have hB1 := btr hB h1
  have hI2 := hI.alloc (.cells #[.int .i64 1, .int .i64 0, .int .i64 0, .int .i64 1] 3)
  have hI4 := Ints.four' w1 1 0 0 1 3 _ rfl
  have hB2 := bal hB1 (.cells #[.int .i64 1, .int .i64 0, .int .i64 0, .int .i64 1] 3)
  go_wp2_with fail
  refine (tSameInts_any _ _ [1, 0, 0, 1] [1, 0, 0, 1] _ hI2 hI4).mono ?_
  rintro e w2 ⟨rfl, h2⟩
  go_wp2
  go_ret
  exact ⟨rfl, btr hB2 h2⟩
end Go.Proofs.YtiiiinoappjhdaaDoor
namespace Go.Proofs.YtiiiinoappjhdaaDoor
open Go.RowKit Go.Shelf
/-- What Shortest returns of such an automaton: a word that leads home. -/
theorem Shortest_cernyW (v : Value) (n : Nat) (w : World) (hT : Tab w) (h : Rows w v (cernyM n)) (h2 : 2 ≤ n) (h12 : n ≤ 12) :
    Calls Tryd.prog 11 #[.agg #[v]] w fun e w' => ∃ A k l, e = .returned (.tuple #[.slice A l.length k, .int .i64 0]) ∧ l.length = (n - 1) * (n - 1) ∧ l.all (inB 0 ((letters (cernyM n) : Int) - 1)) = true ∧ Ints w' (.slice A l.length k) l ∧ (∃ t, t < n ∧ ∀ s, s < n → runM (cernyM n) s l = t) ∧ Below w.heap.size w w' := by
  obtain ⟨hv, hlow, u, hu, hu1, hul⟩ := cerny_all n h2 h12
  have hl := cernyM_len n
  have h12' : (cernyM n).length ≤ 12 := by omega
  obtain ⟨j, hj, hp, hle⟩ := imgF_has hv hu
  rw [hl] at hp
  have hsj : szB (imgF (cernyM n)) j = 1 := by unfold szB; rw [hp, Int.toNat_natCast]; exact hu1
  refine (Shortest_ok v (cernyM n) w hT h hv h12').mono ?_
  rintro e w1 ⟨⟨i, r, hi, hs, hn, rfl, ho⟩ | ⟨hn, rfl⟩, hb⟩
  · obtain ⟨ha, hpi⟩ := imgF_word hv hi
    have hlen : (wordB (imgF (cernyM n)) i).length = (n - 1) * (n - 1) := by
      rw [hl] at hpi
      have h3 : (elems (imgWord (cernyM n) (2 ^ n - 1) (wordB (imgF (cernyM n)) i))).length = 1 := by
        unfold szB at hs
        rw [hpi, Int.toNat_natCast] at hs
        exact hs
      have h4 := hlow _ ha h3
      have hij : i ≤ j := Nat.le_of_not_lt fun hh => hn j hh hsj
      have h5 : SLe (wordB (imgF (cernyM n)) i) u := by
        rcases Nat.lt_or_ge i j with e | e
        · exact .inr ((imgF_rise hv e hj).le hle)
        · obtain rfl : i = j := by omega
          exact hle
      have h6 : (wordB (imgF (cernyM n)) i).length ≤ u.length := by
        rcases h5 with e | e | ⟨e, _⟩
        · rw [e]; exact Nat.le_refl _
        · omega
        · omega
      omega
    have hw := imgF_isWord hv h12' hi
    have hsz := szB_image hv h12' hi hpi
    rw [hs] at hsz
    obtain ⟨x, hx⟩ := List.length_eq_one_iff.1 hsz
    obtain ⟨t, -, ht⟩ := image_one hv hw hx
    have hll := imgF_len hv h12' hi
    obtain ⟨A, k, rfl⟩ := ownsRow_slice ho
    rw [hl] at ht
    refine ⟨A, k, _, rfl, hlen, ha, Ints.of_own ho (by unfold big; omega), ⟨t, ?_, ht⟩, hb⟩
    have := runM_lt hv (wordB (imgF (cernyM n)) i) 0 (by omega) ha
    rw [ht 0 (by omega), hl] at this
    exact this
  · exact absurd hsj (hn j hj)
/-- Where the letters lead. -/
theorem cerny_nx {n s : Nat} (h2 : 2 ≤ n) (hs : s < n) : ((cernyM n).getD s []).getD 0 0 = ((s : Int) + 1) % n ∧ ((s < n - 1 → ((cernyM n).getD s []).getD 1 0 = s) ∧ (s = n - 1 → ((cernyM n).getD s []).getD 1 0 = 0)) := by
  have e : (cernyM n).getD s [] = if s = n - 1 then [0, 0] else [((s : Int) + 1), (s : Int)] := by
    simp [cernyM, List.getD_eq_getElem?_getD, List.getElem?_map, List.getElem?_range hs]
  rw [e]
  by_cases h : s = n - 1
  · rw [if_pos h]
    refine ⟨?_, fun h3 => by omega, fun _ => rfl⟩
    have : (s : Int) + 1 = n := by omega
    rw [this]; simp
  · rw [if_neg h]
    refine ⟨?_, fun _ => rfl, fun h3 => absurd h3 h⟩
    rw [Int.emod_eq_of_lt (by omega) (by omega)]; rfl
theorem rem_nat {s n : Nat} (hn : 0 < n) : ((s : Int) + 1).tmod n = ((s : Int) + 1) % n := by
  rw [Int.tmod_eq_emod_of_nonneg (by omega)]
theorem cerny_row {n s : Nat} (hs : s < n) : (cernyM n).getD s [] = if s = n - 1 then [0, 0] else [((s : Int) + 1), (s : Int)] := by
  simp [cernyM, List.getD_eq_getElem?_getD, List.getElem?_map, List.getElem?_range hs]
theorem cerny_row_len {n s : Nat} (hs : s < n) : ((cernyM n).getD s []).length = 2 := by
  rw [cerny_row hs]; split <;> rfl
theorem cerny_letters {n : Nat} (h2 : 2 ≤ n) : letters (cernyM n) = 2 := cerny_row_len (by omega)
set_option maxRecDepth 100000 in
set_option maxHeartbeats 8000000 in
theorem topCerny_any (w : World) (hT : Tab w) :
    Calls Tryd.prog 9 #[] w fun e w' => e = .returned (.bool true) ∧ Below w.heap.size w w' := by
  go_enter Tryd.func9, Tryd.ntmps9
  go_wp2_with fail
  go_loopw [1] (fun nv wr => ∃ n : Nat, 2 ≤ n ∧ n ≤ 12 ∧ nv = .int .i64 n ∧ Below w.heap.size w wr) (fun nv _ => 12 - (intOf nv).toNat)
  case atStart => exact ⟨2, by omega, by omega, rfl, Below.refl _ _⟩
  case round =>
    obtain ⟨n, h2, h12, rfl, hB⟩ := hrel
    by_cases hlt : n ≤ 11
    · have hns : (n : Int) ≤ 11 := by omega
      have hv := cerny_valid h2 (show n ≤ 60 by omega)
      have hl := cernyM_len n
      have hlet := cerny_letters h2
      obtain ⟨wo, rfl⟩ : ∃ wo : World, wo = wr := ⟨_, rfl⟩
      go_wp2_with fail
      refine (Cerny_any n wo h2 (by omega)).mono ?_
      rintro e w1 ⟨r, rfl, hR, h1⟩
      obtain ⟨A, c, rfl⟩ : ∃ A c, r = .slice A n c := by obtain ⟨A, c, hv, _⟩ := id hR; exact ⟨A, c, by rw [hv, hl]⟩
      have hX := bal (btr hB h1) (.cells #[.slice A n c] 24)
      have c1 := (Boxed.new w1 24 (.slice A n c)).cell
      have hRX := hR.alloc (.cells #[.slice A n c] 24)
      go_wp2_with fail
      generalize w1.alloc (.cells #[.slice A n c] 24) = X at *
      have hTX := hT.on hX
      refine (tValid_bool _ (cernyM n) true _ hRX hv).mono ?_
      rintro e w2 ⟨rfl, hw2⟩
      have c2 := (hw2.cell (p := ⟨w1.heap.size, 0, none⟩) (World.block_lt_of_cell? _ _ c1)).trans c1
      have hR2 := hRX.below hw2
      have hX2 := btr hX hw2
      obtain ⟨A0, cap0, hA0, hml, hcm⟩ := id hR2
      rw [hl] at hA0
      simp only [Value.slice.injEq, true_and] at hA0
      obtain ⟨rfl, rfl⟩ := hA0
      have Hcm := hid hcm
      obtain ⟨b, off, r0, hA, hcell0, hrow0⟩ := hcm 0 (by omega)
      subst hA
      obtain ⟨A1, k1, rfl, -, -⟩ := id hrow0
      rw [cerny_row_len (by omega), Nat.add_zero] at hcell0
      have hin : (0 : Int) < n := by omega
      clear hcm hrow0 hml
      go_wp2_with fail
      go_loopw [4] (fun sv wr => ∃ s : Nat, s ≤ n ∧ sv = .int .i64 s ∧ Below w2.heap.size w2 wr) (fun sv _ => n - (intOf sv).toNat)
      case atStart => exact ⟨0, Nat.zero_le _, rfl, Below.refl _ _⟩
      case round =>
        obtain ⟨s, hs, rfl, hBi⟩ := hrel
        have c3 := (hBi.cell (p := ⟨w1.heap.size, 0, none⟩) (World.block_lt_of_cell? _ _ c2)).trans c2
        by_cases hsn : s < n
        · have hss : (s : Int) < n := by omega
          obtain ⟨b', off', r, hA', hcell, hrow⟩ := Hcm.out s (by omega)
          cases hA'
          obtain ⟨e0, e1, e2⟩ := cerny_nx h2 hsn
          obtain ⟨Ar, capr, rfl, -, hcr⟩ := id hrow
          have hrl := cerny_row_len hsn
          rw [hrl] at hcell
          obtain ⟨br, offr, hAr, hct⟩ := hcr 0 (by omega)
          subst hAr
          obtain ⟨br', offr', hAr', hct1⟩ := hcr 1 (by omega)
          cases hAr'
          rw [e0, ← rem_nat (by omega), Nat.add_zero] at hct
          have d1 := (hBi.cell (p := ⟨b, off + s, none⟩) (World.block_lt_of_cell? _ _ hcell)).trans hcell
          have d2 := (hBi.cell (p := ⟨br, offr, none⟩) (World.block_lt_of_cell? _ _ hct)).trans hct
          have d3 := (hBi.cell (p := ⟨br, offr + 1, none⟩) (World.block_lt_of_cell? _ _ hct1)).trans hct1
          have hne : (n : Int) ≠ 0 := by omega
          have hsub : IntKind.i64.wrap ((n : Int) - 1) = (n : Int) - 1 := IntWalk.i64_in _ (by omega)
          have hadd : IntKind.i64.wrap ((s : Int) + 1) = (s : Int) + 1 := IntWalk.i64_in _ (by omega)
          have hrem1 : Int.tmod ((s : Int) + 1) n < n := Int.tmod_lt_of_pos _ (by omega)
          have hrem2 : 0 ≤ Int.tmod ((s : Int) + 1) n := Int.tmod_nonneg _ (by omega)
          have hremw : IntKind.i64.wrap (Int.tmod ((s : Int) + 1) n) = Int.tmod ((s : Int) + 1) n := IntWalk.i64_in _ (by omega)
          clear hcr hrow hcell hct hct1 hrl e0
          by_cases hlast : s < n - 1
          · rw [e1 hlast] at d3
            have f1 : decide ((s : Int) < (n : Int) - 1) = true := by simp; omega
            have f2 : ((s : Int) == (n : Int) - 1) = false := beq_eq_false_iff_ne.2 (by omega)
            clear e1 e2
            go_wp2_with fail
            go_quiet (fail)
            go_wp2
            go_roundw
            case rel => exact ⟨s + 1, by omega, by go_num, bdr hBi nq⟩
            case measure => simp [intOf]; omega
          · rw [e2 (by omega)] at d3
            have f1 : decide ((s : Int) < (n : Int) - 1) = false := by simp; omega
            have f2 : ((s : Int) == (n : Int) - 1) = true := beq_iff_eq.2 (by omega)
            clear e1 e2
            go_wp2_with fail
            go_quiet (fail)
            go_wp2
            go_roundw
            case rel => exact ⟨s + 1, by omega, by go_num, bdr hBi nq⟩
            case measure => simp [intOf]; omega
        · have hss : ¬ (s : Int) < n := by omega
          have hB3 := btr hX2 hBi
          have hR3 := hR2.below hBi
          have hTr := hT.on hB3
          have hsub : IntKind.i64.wrap ((n : Int) - 1) = ((n - 1 : Nat) : Int) := by rw [IntWalk.i64_in _ (by omega)]; omega
          have hm : (n - 1) * (n - 1) ≤ 60 * 60 := Nat.mul_le_mul (by omega) (by omega)
          have hc : ((n - 1 : Nat) : Int) * ((n - 1 : Nat) : Int) = (((n - 1) * (n - 1) : Nat) : Int) := by simp
          have hmul : IntKind.i64.wrap (((n - 1 : Nat) : Int) * ((n - 1 : Nat) : Int)) = (((n - 1) * (n - 1) : Nat) : Int) := by rw [hc, IntWalk.i64_in _ (by omega)]
          have hS := hid (Shortest_cernyW (.slice (some ⟨b, off, none⟩) n c) n _ hTr hR3 h2 h12)
          generalize (n - 1) * (n - 1) = K at *
          clear hc
          go_wp2_with fail
          refine hS.out.mono ?_
          rintro e w4 ⟨A4, k4, l, rfl, hlen, hall, hI, ⟨t, ht, hrun⟩, h4⟩
          subst hlen
          have c4 := (h4.cell (p := ⟨w1.heap.size, 0, none⟩) (World.block_lt_of_cell? _ _ c3)).trans c3
          have hB4 := btr hB3 h4
          have hR4 := hR3.below h4
          have Hrun := hid hrun
          have Hall := hid hall
          clear hrun hall
          go_wp2_with fail
          refine (tSpread_one _ _ (cernyM n) l t _ hR4 hI hv Hall.out (by omega) (by rw [hl]; exact Hrun.out)).mono ?_
          rintro e w5 ⟨rfl, h5⟩
          have hB5 := btr hB4 h5
          go_wp2_with fail
          go_roundw
          case rel => exact ⟨n + 1, by omega, by omega, by go_num, hB5⟩
          case measure => simp [intOf]; omega
    · have hns : ¬ (n : Int) ≤ 11 := by omega
      go_wp2_with fail
      refine (tShortens_any _ (hT.on hB)).mono ?_
      rintro e w5 ⟨rfl, h5⟩
      go_wp2
      go_ret
      exact ⟨rfl, btr hB h5⟩
end Go.Proofs.YtiiiinoappjhdaaDoor
