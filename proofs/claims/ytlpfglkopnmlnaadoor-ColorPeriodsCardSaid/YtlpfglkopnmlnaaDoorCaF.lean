/-
  Texts that the proof of the law stands on: W, V, O2, Z18, Z32, Z33, Z34, Z35, Z36.
-/
import Derived.Test.YtlpfglkopnmlnaaDoorCaE
import Derived.WalkKit
import Derived.ProofKit
import Derived.OpenShut
import Derived.Deep.DeepHandedRow
import Derived.Deep.DeepWitnessRowRef
import Derived.Lib.LaidTab
import Derived.Lib.LaidIn
import Derived.Lib.ItoaNum
import Derived.WideKeyArgs
import Derived.Test.YtlpfglkopnmlnaaDoorRows
import Derived.Deep.RegionHeld
namespace Go.Proofs.YtlpfglkopnmlnaaDoor
open Go.ChangeShapes Go.WideShapes Go.ChangeAt Go.RowKit
theorem own : ownKnob Tryd.prog.godebug = none := by kernel_rfl
noncomputable abbrev N0 : Nat := (World.settled Tryd.prog default).heap.size
theorem gTab : Tryd.prog.globalNamed "math/bits.deBruijn64tab" = some 0 := by kernel_rfl
theorem gTabType : (Tryd.prog.globals[0]?).map (·.type) = some 123 := by kernel_rfl
theorem cellsTab : Tryd.prog.cellsOf 123 = 64 := by kernel_rfl
theorem cellsU8 : Tryd.prog.cellsOf 5 = 1 := by kernel_rfl
section
variable {H : Type} {enc : TypeId × Value → H}
/-- All arguments read as they did. -/
theorem TrodAll_stays {P : Program} (hl : laidOutB P = true) {W W' : World} {sp : Nat → Bool} : ∀ {ts : List TypeId} {vs : List Value} {ds : List (DataW H)} {ps : List MemPlace},
    (∀ t ∈ ts, P.readableRec t = true ∧ t < P.types.size) → DataW.TrodAll enc P W 0 (fun _ => true) true ts vs ds ps → (∀ x ∈ ps, W.sameAt W' x) → (∀ x ∈ ps, sp x.block = true) → DataW.TrodAll enc P W' 0 sp true ts vs ds ps
  | [], vs, ds, ps, _, h, _, _ => by cases vs <;> cases ds <;> simp_all [DataW.TrodAll]
  | t :: ts, vs, ds, ps, ht, h, hs, hsp => by
    obtain ⟨v, vs', d, ds', p, q, rfl, rfl, rfl, h0, r0⟩ := trodAll_cons h
    exact trodAll_cons_mk (WideElems.Trod_stays hl (ht t (by simp)).1 (ht t (by simp)).2 h0 (fun x hx => hs x (List.mem_append_left _ hx)) (fun x hx => hsp x (List.mem_append_left _ hx)))
      (TrodAll_stays hl (fun u hu => ht u (by simp [hu])) r0 (fun x hx => hs x (List.mem_append_right _ hx)) (fun x hx => hsp x (List.mem_append_right _ hx)))
set_option maxRecDepth 100000 in
/-- An automaton that came in. -/
theorem auto_of {W : World} {base : Nat} {v : Value} {d : DataW H} {p : List MemPlace} (hv : Value.okWide Tryd.prog W .any base 24 v) (h : DataW.Trod enc Tryd.prog W 0 (fun _ => true) true 24 v d p)
    (hw : ∀ n ∈ d.weights Tryd.prog 24, n ≤ reachBytes) : ∃ c m, v = .agg #[c] ∧ Rows W c m := by
  obtain ⟨cs, rfl, hs⟩ := okWide_struct Tryd.underlying24 hv
  rw [cells_auto] at hs
  obtain ⟨c, rfl⟩ : ∃ c, cs = #[c] := by
    match cs, hs with
    | ⟨[c]⟩, _ => exact ⟨c, rfl⟩
  obtain ⟨fuel, hf⟩ := h
  obtain ⟨y0, n, hx, _, h0⟩ := trod_struct1 Tryd.underlying24 hf
  have hd : d = .agg [y0.1] := (Prod.mk.inj hx).1
  subst hd
  obtain ⟨m, hm⟩ := rows_of_trod (fuel := n) (c := c) (x := y0) h0 (fun k hk => hw k (by
    rw [DataW.weights, Tryd.underlying24]
    simp only [List.map_cons, List.map_nil, DataW.weightsEach, List.append_nil]
    exact hk))
  exact ⟨c, m, rfl, hm⟩
set_option maxRecDepth 100000 in
/-- A list of numbers that came in. -/
theorem list_of {W : World} {base : Nat} {v : Value} {d : DataW H} {p : List MemPlace} (hv : Value.okWide Tryd.prog W .any base 41 v) (h : DataW.Trod enc Tryd.prog W 0 (fun _ => true) true 41 v d p)
    (hw : ∀ n ∈ d.weights Tryd.prog 41, n ≤ reachBytes) : ∃ l, Ints W v l := by
  obtain ⟨a, len, cap, rfl⟩ := okWide_slice Tryd.underlying41 hv
  obtain ⟨fuel, hf⟩ := h
  exact ints_of_trod hf hw
set_option maxRecDepth 100000 in
/-- A nil list has no room. -/
theorem list_nil_of {W : World} {base : Nat} {v : Value} {d : DataW H} {p : List MemPlace} (hv : Value.okWide Tryd.prog W .any base 41 v) (h : DataW.Trod enc Tryd.prog W 0 (fun _ => true) true 41 v d p) : ∀ A n c, v = .slice A n c → A = none → c = 0 := by
  obtain ⟨a, len, cap, rfl⟩ := okWide_slice Tryd.underlying41 hv
  obtain ⟨fuel, hf⟩ := h
  rintro A n c hA rfl
  simp only [Value.slice.injEq] at hA
  obtain ⟨rfl, rfl, rfl⟩ := hA
  have hf' : DataW.trod enc Tryd.prog W 0 (fun _ => true) true fuel 41 [.slice none len cap] = some (d, p) := hf
  rcases Go.ChangeShapes.open_ints Tryd.underlying41 Tryd.underlying3 cells_int hf' with ⟨hc, _⟩ | ⟨a, _, _, _, hc, _⟩
  · simp only [List.cons.injEq, Value.slice.injEq] at hc
    exact hc.1.2.2
  · simp at hc
theorem weight_of {P : Program} {ts : List TypeId} {ds : List (DataW H)} (h : (DataW.weightsEach P ts ds).all (· ≤ reachBytes) = true) {j : Nat} {t : TypeId} {d : DataW H} (ht : ts[j]? = some t) (hd : ds[j]? = some d) : ∀ n ∈ d.weights P t, n ≤ reachBytes := by
  intro n hn
  have := List.all_eq_true.1 h _ (DataW.weights_mem_each ht hd n hn)
  simpa using this
end
end Go.Proofs.YtlpfglkopnmlnaaDoor
namespace Go.Proofs.YtlpfglkopnmlnaaDoor
open Go.ChangeShapes Go.WideShapes Go.ChangeAt Go.RowKit
noncomputable def laidWorld2 (os : Os) : World :=
  let w0 := World.holding Tryd.prog os ⟨#[], #[], []⟩
  let put (h : Array Obj) (g : Nat) (cs : Array Value) : Array Obj := h.modify g fun
    | .cells _ t frozen => .cells cs t frozen
    | o => o
  { w0 with heap := put w0.heap 0 (Lib.deBruijn64tab.map fun z : Nat => Value.int .u8 z).toArray }
set_option maxRecDepth 1000000 in
theorem laid_met2 (os : Os) (args : Array Value) : laidMet Tryd.prog Rows.colorMakesRow.laid ((laidWorld2 os).forCall (fun _ _ => 0) ⟨#[], args, []⟩).memory :=
  (LaidIn.of_run (l := Rows.colorMakesRow.laid) [0] 8 (by kernel_rfl) (by kernel_rfl) (by kernel_rfl) (by kernel_rfl)).met
/-- The table of the least bit, out of the list. -/
theorem tab_of2 {W : World} (h : laidMetH Tryd.prog Rows.colorMakesRow.laid W) : Tab W := by
  have h1 : laidMet Tryd.prog Rows.colorMakesRow.laid W := h
  have h2 : laidMet Tryd.prog (("math/bits.deBruijn64tab", Lib.tabData .u8 (Lib.deBruijn64tab.map fun x : Nat => (x : Int))) :: Rows.colorMakesRow.laid.drop 1) W := h1
  have h3 := Lib.tabIs_of_head gTab gTabType Tryd.underlying123 Tryd.underlying5 cellsU8 cellsTab h2
  intro j hj
  have h4 := h3.cell gTab j (by rw [List.length_map]; exact hj)
  rw [h4]
  have e : j < Lib.deBruijn64tab.length := hj
  simp [List.getD_eq_getElem?_getD, List.getElem?_eq_getElem e]
end Go.Proofs.YtlpfglkopnmlnaaDoor
namespace Go.Proofs.YtlpfglkopnmlnaaDoor
open Go.RowKit Go.Deep Go.ChangeShapes Go.WideShapes
/-- A slice of slices of ints, where a nil row has no room. -/
def RowsN (w : World) (v : Value) (m : List (List Int)) : Prop :=
  ∃ A cap, v = .slice A m.length cap ∧ m.length ≤ big ∧ ∀ i, i < m.length → ∃ b off Ar c, A = some ⟨b, off, none⟩ ∧ w.cell? ⟨b, off + i, none⟩ = some (.slice Ar (m.getD i []).length c) ∧ Ints w (.slice Ar (m.getD i []).length c) (m.getD i []) ∧ (Ar = none → c = 0)
theorem RowsN.rows {w : World} {v : Value} {m : List (List Int)} (h : RowsN w v m) : Rows w v m := by
  obtain ⟨A, cap, hv, hl, hc⟩ := h
  refine ⟨A, cap, hv, hl, fun i hi => ?_⟩
  obtain ⟨b, off, Ar, c, hA, hcell, hr, _⟩ := hc i hi
  exact ⟨b, off, _, hA, hcell, hr⟩
theorem RowsN.below {w w' : World} {v : Value} {m : List (List Int)} (h : RowsN w v m) (hb : Below w.heap.size w w') : RowsN w' v m := by
  obtain ⟨A, cap, hv, hl, hc⟩ := h
  refine ⟨A, cap, hv, hl, fun i hi => ?_⟩
  obtain ⟨b, off, Ar, c, hA, hcell, hr, hn⟩ := hc i hi
  exact ⟨b, off, Ar, c, hA, (hb.cell (p := ⟨b, off + i, none⟩) (World.block_lt_of_cell? _ _ hcell)).trans hcell, hr.below hb, hn⟩
section
variable {H : Type} {enc : TypeId × Value → H} {W : World} {base : Nat}
theorem rowsN_of_trod {fuel : Nat} {c : Value} {x : DataW H × List MemPlace} (h : DataW.trod enc Tryd.prog W base (fun _ => true) true fuel 22 [c] = some x) (hw : ∀ n ∈ x.1.weights Tryd.prog 22, n ≤ reachBytes) : ∃ m, RowsN W c m := by
  rcases open_int_rows Tryd.underlying22 Tryd.underlying41 Tryd.underlying3 cells_row cells_int h with ⟨hc, _⟩ | ⟨a, len, cap, A, L, C, Z, hc, _, hl, _, rfl, hr⟩
  · obtain rfl : c = .slice none 0 0 := by simpa using hc
    exact ⟨[], none, 0, rfl, by simp, fun i hi => by simp at hi⟩
  · obtain rfl : c = .slice (some a) len cap := by simpa using hc
    have hlen : ((List.range len).map fun r => (Z r).take (L r)).length = len := by simp
    have hout := hw ((len + (cap - len)) * Tryd.prog.bytesOf 41) (by simp [DataW.weights, Tryd.underlying22])
    rw [bytes_row] at hout
    have hrow : ∀ r, r < len → C r ≤ big := by
      intro r hr'
      obtain ⟨_, hLC, _, hz, _, hn, _⟩ := hr r (by omega)
      cases hA : A r with
      | none => rw [hn hA]; exact Nat.zero_le _
      | some a' =>
        have hm : (intRow .i64 (A r) (L r) (Z r) : DataW H) ∈ (List.range len).map fun r => (intRow .i64 (A r) (L r) (Z r) : DataW H) := List.mem_map.2 ⟨r, by simpa using hr', rfl⟩
        have hb := hw ((List.length (lits .i64 ((Z r).take (L r)) : List (DataW H)) + List.length (lits .i64 ((Z r).drop (L r)) : List (DataW H))) * Tryd.prog.bytesOf 3) (by
          rw [DataW.weights, Tryd.underlying22]
          refine List.mem_cons_of_mem _ (List.mem_append_left _ (weightsAll_mem hm _ ?_))
          simp [intRow, hA, DataW.weights, Tryd.underlying41])
        rw [bytes_int] at hb
        simp only [lits, List.length_map, List.length_take, List.length_drop] at hb
        exact reach_big (by omega)
    refine ⟨(List.range len).map fun r => (Z r).take (L r), some a, cap, by rw [hlen], by rw [hlen]; unfold reachBytes at hout; unfold big; omega, fun i hi => ?_⟩
    rw [hlen] at hi
    obtain ⟨hcell, hLC, _, hz, _, hn, hcc⟩ := hr i (by omega)
    have h2 := add_spot hcell
    have h00 := add_spot (hr 0 (by omega)).1
    simp only [Addr.add, if_true, Nat.add_zero] at h00
    have e1 : ((List.range len).map fun r => (Z r).take (L r)).getD i [] = (Z i).take (L i) := by simp [List.getD_eq_getElem?_getD, hi]
    have e2 : ((Z i).take (L i)).length = L i := by simp; omega
    refine ⟨a.block, a.off, A i, C i, by rw [h00], by rw [h2] at hcell; rw [e1, e2]; exact hcell, ?_, hn⟩
    rw [e1, e2]
    exact row_ints hLC hz hn (fun a' ha c hc' => (hcc a' ha).2 c hc') (hrow i hi)
set_option maxRecDepth 100000 in
/-- A list of lists of numbers that came in. -/
theorem lists_of {W : World} {base : Nat} {v : Value} {d : DataW H} {p : List MemPlace} (hv : Value.okWide Tryd.prog W .any base 22 v) (h : DataW.Trod enc Tryd.prog W 0 (fun _ => true) true 22 v d p)
    (hw : ∀ n ∈ d.weights Tryd.prog 22, n ≤ reachBytes) : ∃ l, RowsN W v l := by
  obtain ⟨a, len, cap, rfl⟩ := okWide_slice Tryd.underlying22 hv
  obtain ⟨fuel, hf⟩ := h
  exact rowsN_of_trod hf hw
end
end Go.Proofs.YtlpfglkopnmlnaaDoor
namespace Go.Proofs.YtlpfglkopnmlnaaDoor
open Go.RowKit Go.Shelf
/-- What the chapter's examples answer. -/
def Awake5 : Prop := ∀ w : World, Tab w → Calls Tryd.prog 16 #[] w fun e w' => e = .returned (.bool true) ∧ Below w.heap.size w w'
set_option maxRecDepth 100000 in
set_option maxHeartbeats 2000000 in
theorem colorCounts_from (aw : Awake5) (v : Value) (m : List (List Int)) (w : World) (hT : Tab w) (h : Rows w v m) :
    Calls Tryd.prog 4 #[.agg #[v]] w fun e w' => e = .returned (.bool true) ∧ Below w.heap.size w w' := by
  have Aw := hid aw
  obtain ⟨A, cap, rfl, hml, -⟩ := id h
  have hX := bal (Below.refl _ w) (.cells #[.slice A m.length cap] 24)
  have hbx := (Boxed.new w 24 (.slice A m.length cap)).cell
  clear aw
  go_enter Tryd.func4, Tryd.ntmps4
  go_wp2_with fail
  have hr := h.below hX
  have hTX := hT.on hX
  generalize w.alloc (.cells #[.slice A m.length cap] 24) = X at *
  cases hv : validM m with
  | false =>
    refine (Colorings_form _ m _ hr hv).mono ?_
    rintro e w1 ⟨rfl, h1⟩
    have c1 := (h1.cell (p := ⟨w.heap.size, 0, none⟩) (World.block_lt_of_cell? _ _ hbx)).trans hbx
    go_wp2_with fail
    refine (rValid_bool _ m false _ (hr.below h1) hv).mono ?_
    rintro e w2 ⟨rfl, h2⟩
    have B2 := btr h1 h2
    go_wp2_with fail
    refine (Aw.out _ (hTX.on B2)).mono ?_
    rintro e w3 ⟨rfl, h3⟩
    go_wp2
    go_ret
    exact ⟨rfl, btr hX (btr B2 h3)⟩
  | true =>
    obtain ⟨r, hre⟩ : ∃ r, colTo m 1152921504606846976 m.length = r := ⟨_, rfl⟩
    have Hre := hid hre
    have hc := Colorings_ok _ m r _ hr hv Hre
    have hrc := hid (fun (W : World) (hb : Below X.heap.size X W) => rColorings_any _ m 1152921504606846976 r W (hr.below hb) hv (by decide) (by decide) Hre)
    clear hre
    cases r with
    | none =>
      have e1 : colN none = 0 := rfl
      have e2 : colE none = 3 := rfl
      have e3 : colB none = false := rfl
      rw [e1, e2] at hc
      refine hc.mono ?_
      clear hc
      rintro e w1 ⟨rfl, h1⟩
      have c1 := (h1.cell (p := ⟨w.heap.size, 0, none⟩) (World.block_lt_of_cell? _ _ hbx)).trans hbx
      go_wp2_with fail
      refine (rValid_bool _ m true _ (hr.below h1) hv).mono ?_
      rintro e w2 ⟨rfl, h2⟩
      have B2 := btr h1 h2
      have c2 := (h2.cell (p := ⟨w.heap.size, 0, none⟩) (World.block_lt_of_cell? _ _ c1)).trans c1
      go_wp2_with fail
      refine (hrc.out _ B2).mono ?_
      rw [e1, e3]
      rintro e w3 ⟨rfl, h3⟩
      have B3 := btr B2 h3
      go_wp2_with fail
      refine (Aw.out _ (hTX.on B3)).mono ?_
      rintro e w4 ⟨rfl, h4⟩
      go_wp2
      go_ret
      exact ⟨rfl, btr hX (btr B3 h4)⟩
    | some c =>
      have e1 : colN (some c) = c := rfl
      have e2 : colE (some c) = 0 := rfl
      have e3 : colB (some c) = true := rfl
      rw [e1, e2] at hc
      refine hc.mono ?_
      clear hc
      rintro e w1 ⟨rfl, h1⟩
      have c1 := (h1.cell (p := ⟨w.heap.size, 0, none⟩) (World.block_lt_of_cell? _ _ hbx)).trans hbx
      go_wp2_with fail
      refine (rValid_bool _ m true _ (hr.below h1) hv).mono ?_
      rintro e w2 ⟨rfl, h2⟩
      have B2 := btr h1 h2
      have c2 := (h2.cell (p := ⟨w.heap.size, 0, none⟩) (World.block_lt_of_cell? _ _ c1)).trans c1
      go_wp2_with fail
      refine (hrc.out _ B2).mono ?_
      rw [e1, e3]
      rintro e w3 ⟨rfl, h3⟩
      have B3 := btr B2 h3
      go_wp2_with fail
      refine (Aw.out _ (hTX.on B3)).mono ?_
      rintro e w4 ⟨rfl, h4⟩
      go_wp2
      go_ret
      exact ⟨rfl, btr hX (btr B3 h4)⟩
end Go.Proofs.YtlpfglkopnmlnaaDoor
namespace Go.Proofs.YtlpfglkopnmlnaaDoor
open Go.RowKit Go.Shelf
def m5a : List (List Int) := [[1, 0], [0, 1]]
theorem m5a_valid : validM m5a = true := by decide +kernel
theorem m5a_conn : connM m5a = true := by
  rw [connM_iff m5a (by decide)]
  intro s t hs ht
  rw [← reachL_get m5a_valid hs]
  have h : ∀ s : Fin 2, ∀ t : Fin 2, (reachL m5a s).getD t false = true := by decide +kernel
  exact h ⟨s, hs⟩ ⟨t, ht⟩
theorem m5a_per : perM m5a = 1 := by decide +kernel
theorem m5a_count : colTo m5a 1152921504606846976 m5a.length = some 4 := by decide +kernel
theorem m5a_perms : permsM m5a [[0, 1], [1, 0]] = true := by decide +kernel
theorem m5a_col : colM m5a [[0, 1], [1, 0]] = [[1, 0], [1, 0]] := by decide +kernel
theorem m5a_same : sameOk m5a [[1, 0], [1, 0]] = true ∧ sameE m5a [[1, 0], [1, 0]] = 0 := by decide +kernel
theorem m5a_tried : [[0, 1], [0, 1]] ∈ allNum m5a := by
  refine List.mem_append_left _ (List.mem_map.2 ⟨1, by simp, ?_⟩)
  decide +kernel
theorem m5c_valid : validM [[0, 1], [0, 1]] = true := by decide +kernel
theorem m5c_apart : apartL [[0, 1], [0, 1]] = [] := by decide +kernel
theorem m5c_all : allMerge [[0, 1], [0, 1]] := (apartL_nil m5c_valid).1 m5c_apart
/-- What Road returns where one of the colourings that are tried has a reset word. -/
def RoadYes (m : List (List Int)) (w : World) (e : Ending) (w' : World) : Prop :=
  ∃ (r u : Value) (M : List (List Int)), e = .returned (.tuple #[.agg #[r], u, .int .i64 0]) ∧ PermR m M ∧ validM M = true ∧ allMerge M ∧ Rows w' r M ∧ Ints w' u (resetW M) ∧ isWordM M (resetW M) = true ∧ (imageM M (allM M.length) (resetW M)).length = 1 ∧ (resetW M).length ≤ (m.length * m.length * m.length - m.length) / 6 ∧ Below w.heap.size w w'
theorem resetW_len {M : List (List Int)} (hv : validM M = true) (ha : allMerge M) : (resetW M).length ≤ (M.length * M.length * M.length - M.length) / 6 ∧ (resetW M).length ≤ 40000 := by
  obtain ⟨p1, p2, -⟩ := valid_parts hv
  obtain ⟨h1, h2, h3⟩ := resetW_ok hv ha
  have h4 : M.length * M.length * M.length ≤ 60 * 60 * 60 := Nat.mul_le_mul (Nat.mul_le_mul p2 p2) p2
  exact ⟨h3, by omega⟩
theorem road_yes {m : List (List Int)} {w w' : World} {e : Ending} (hv : validM m = true) (h : RoadIs m w e w') (hM : ∃ M ∈ allNum m, allMerge M) : RoadYes m w e w' := by
  rcases h with ⟨r, u, M, rfl, h1, h2, h3, h4, h5⟩ | ⟨h1, _⟩
  · have hp := allNum_perm hv h1
    have hvM := hp.valid hv
    have k1 := resetW_word hvM h2
    obtain ⟨k2, k3⟩ := resetW_len hvM h2
    refine ⟨r, u, M, rfl, hp, hvM, h2, h3, Ints.of_own h4 (by unfold big; omega), k1, reset_one hvM h2, ?_, h5⟩
    rw [hp.1] at k2
    exact k2
  · obtain ⟨M, hm, ha⟩ := hM
    exact absurd ha (h1 M hm)
theorem road_m5a (v : Value) (w : World) (hT : Tab w) (h : Rows w v m5a) : Calls Tryd.prog 20 #[.agg #[v]] w (RoadYes m5a w) :=
  (Road_ok v m5a w hT h m5a_valid m5a_conn m5a_per).mono fun _ _ hr => road_yes m5a_valid hr ⟨_, m5a_tried, m5c_all⟩
theorem road_mR (v : Value) (w : World) (h : Rows w v mR) : Calls Tryd.prog 20 #[.agg #[v]] w (RoadErr w 4) :=
  Road_err v mR 3 0 4 w h (.inl ⟨mR_conn, mR_valid, by rw [mR_per]; rfl, rfl⟩) (.inr ⟨rfl, by omega, rfl⟩)
theorem lit_mR' (w : World) (k : Nat) (hk : w.heap.size = k) : Rows ((((w.alloc (.cells #[.int .i64 1, .int .i64 1] 3)).alloc (.cells #[.int .i64 2, .int .i64 2] 3)).alloc (.cells #[.int .i64 0, .int .i64 0] 3)).alloc
    (.cells #[.slice (some ⟨k, 0, none⟩) 2 2, .slice (some ⟨k + 1, 0, none⟩) 2 2, .slice (some ⟨k + 1 + 1, 0, none⟩) 2 2] 41)) (.slice (some ⟨k + 1 + 1 + 1, 0, none⟩) 3 3) mR := by subst hk; exact lit_mR w
theorem lit2_rows' (w : World) (a b c d : Int) (k : Nat) (hk : w.heap.size = k) : Rows (((w.alloc (.cells #[.int .i64 a, .int .i64 b] 3)).alloc (.cells #[.int .i64 c, .int .i64 d] 3)).alloc
    (.cells #[.slice (some ⟨k, 0, none⟩) 2 2, .slice (some ⟨k + 1, 0, none⟩) 2 2] 41)) (.slice (some ⟨k + 1 + 1, 0, none⟩) 2 2) [[a, b], [c, d]] := by subst hk; exact lit2_rows w a b c d
set_option maxRecDepth 100000 in
set_option maxHeartbeats 2000000 in
theorem awake5_any : Awake5 := by
  intro w hT
  go_enter Tryd.func16, Tryd.ntmps16
  go_wp2_with fail
  have hR0 := (lit2_rows w 1 0 0 1).alloc (.cells #[.slice (some ⟨w.heap.size + 1 + 1, 0, none⟩) 2 2] 24)
  have hX := bal (bal (bal (bal (Below.refl _ w) (.cells #[.int .i64 1, .int .i64 0] 3)) (.cells #[.int .i64 0, .int .i64 1] 3)) (.cells #[.slice (some ⟨w.heap.size, 0, none⟩) 2 2, .slice (some ⟨w.heap.size + 1, 0, none⟩) 2 2] 41)) (.cells #[.slice (some ⟨w.heap.size + 1 + 1, 0, none⟩) 2 2] 24)
  have hbx := (Boxed.new (((w.alloc (.cells #[.int .i64 1, .int .i64 0] 3)).alloc (.cells #[.int .i64 0, .int .i64 1] 3)).alloc (.cells #[.slice (some ⟨w.heap.size, 0, none⟩) 2 2, .slice (some ⟨w.heap.size + 1, 0, none⟩) 2 2] 41)) 24 (.slice (some ⟨w.heap.size + 1 + 1, 0, none⟩) 2 2)).cell
  simp only [World.size_alloc] at hbx
  have hTX := hT.on hX
  generalize (((w.alloc (.cells #[.int .i64 1, .int .i64 0] 3)).alloc (.cells #[.int .i64 0, .int .i64 1] 3)).alloc (.cells #[.slice (some ⟨w.heap.size, 0, none⟩) 2 2, .slice (some ⟨w.heap.size + 1, 0, none⟩) 2 2] 41)).alloc (.cells #[.slice (some ⟨w.heap.size + 1 + 1, 0, none⟩) 2 2] 24) = X at *
  generalize hva : Value.slice (some ⟨w.heap.size + 1 + 1, 0, none⟩) 2 2 = va at *
  have hlB := World.block_lt_of_cell? _ _ hbx
  generalize w.heap.size + 1 + 1 + 1 = B at *
  have hva2 : ∃ g, va = .slice (some ⟨g, 0, none⟩) 2 2 := ⟨_, hva.symm⟩
  obtain ⟨ga, rfl⟩ := hva2
  clear hva
  have hRa : Rows X (.slice (some ⟨ga, 0, none⟩) 2 2) m5a := hR0
  clear hR0
  refine (Colorings_ok _ m5a (some 4) _ hRa m5a_valid (hid m5a_count)).mono ?_
  rintro e w1 ⟨rfl, h1⟩
  have e1 : colN (some 4) = 4 := rfl
  have e2 : colE (some 4) = 0 := rfl
  rw [e1, e2]
  have c1 := (h1.cell (p := ⟨B, 0, none⟩) hlB).trans hbx
  have hra1 := hRa.below h1
  go_wp2_with fail
  have hP := lit2_rows w1 0 1 1 0
  have hX1 := bal (bal (bal (Below.refl _ w1) (.cells #[.int .i64 0, .int .i64 1] 3)) (.cells #[.int .i64 1, .int .i64 0] 3)) (.cells #[.slice (some ⟨w1.heap.size, 0, none⟩) 2 2, .slice (some ⟨w1.heap.size + 1, 0, none⟩) 2 2] 41)
  have hra2 := hra1.below hX1
  have c2 := (hX1.cell (p := ⟨B, 0, none⟩) (World.block_lt_of_cell? _ _ c1)).trans c1
  generalize ((w1.alloc (.cells #[.int .i64 0, .int .i64 1] 3)).alloc (.cells #[.int .i64 1, .int .i64 0] 3)).alloc (.cells #[.slice (some ⟨w1.heap.size, 0, none⟩) 2 2, .slice (some ⟨w1.heap.size + 1, 0, none⟩) 2 2] 41) = Y at *
  refine (Colored_same _ _ m5a [[0, 1], [1, 0]] Y hra2 hP m5a_valid rfl).mono ?_
  rintro e w2 (⟨-, r, rfl, hRb, h2⟩ | ⟨hf, -⟩)
  · rw [m5a_col] at hRb
    have B2 := btr h1 (btr hX1 h2)
    have c3 := (h2.cell (p := ⟨B, 0, none⟩) (World.block_lt_of_cell? _ _ c2)).trans c2
    have hra3 := hra2.below h2
    obtain ⟨rA, rc, rfl, -⟩ := id hRb
    have hb2 := bal (Below.refl _ w2) (.cells #[.slice rA 2 rc] 24)
    have q2 := (Boxed.new w2 24 (.slice rA 2 rc)).cell
    have c4 := (hb2.cell (p := ⟨B, 0, none⟩) (World.block_lt_of_cell? _ _ c3)).trans c3
    have hra4 := hra3.below hb2
    have hrb4 : Rows (w2.alloc (.cells #[.slice rA 2 rc] 24)) (.slice rA 2 rc) [[1, 0], [1, 0]] := hRb.below hb2
    have B4 := btr B2 hb2
    clear hRb hra3 c3 hb2 B2 h2 hP hX1 c2 hra2 h1 hra1 c1 hRa hbx
    go_wp2_with fail
    generalize w2.alloc (.cells #[.slice rA 2 rc] 24) = Z at *
    generalize w2.heap.size = b4 at *
    have hs4 := Same_any _ _ m5a [[1, 0], [1, 0]] Z hra4 hrb4
    rw [m5a_same.1, m5a_same.2] at hs4
    refine hs4.mono ?_
    rintro e w5 ⟨rfl, h5⟩
    have c5 := (h5.cell (p := ⟨B, 0, none⟩) (World.block_lt_of_cell? _ _ c4)).trans c4
    have q5 := (h5.cell (p := ⟨b4, 0, none⟩) (World.block_lt_of_cell? _ _ q2)).trans q2
    have hra5 := hra4.below h5
    have hrb5 := hrb4.below h5
    have B5 := btr B4 h5
    clear c4 q2 hra4 hrb4 hs4 B4 h5
    go_wp2_with fail
    refine (road_m5a _ w5 (hTX.on B5) hra5).mono ?_
    rintro e w6 ⟨rr, ru, M, rfl, hM1, hM2, hM3, hM4, hM5, hM6, hM7, -, h6⟩
    obtain ⟨M1, M2, rfl, -⟩ := id hM4
    obtain ⟨U1, U2, rfl, -⟩ := id hM5
    have b6 := bal h6 (.cells #[.slice M1 M.length M2] 24)
    have q6 := (Boxed.new w6 24 (.slice M1 M.length M2)).cell
    have q7 := (b6.cell (p := ⟨b4, 0, none⟩) (World.block_lt_of_cell? _ _ q5)).trans q5
    have hrb6 := hrb5.below b6
    have hM8 : Rows (w6.alloc (.cells #[.slice M1 M.length M2] 24)) (.slice M1 M.length M2) M := hM4.alloc _
    have hM9 : Ints (w6.alloc (.cells #[.slice M1 M.length M2] 24)) (.slice U1 (resetW M).length U2) (resetW M) := hM5.alloc _
    have B6 := btr B5 b6
    clear hM4 hM5 h6 b6 hrb5 B5 q5 c5 hra5
    generalize hul : resetW M = ul at *
    generalize hml : M.length = ml at *
    have Hml := hid hml
    clear hml hul
    have hz6 : (w6.alloc (.cells #[.slice M1 ml M2] 24)).heap.size = w6.heap.size + 1 := by simp
    go_wp2_with fail
    generalize w6.alloc (.cells #[.slice M1 ml M2] 24) = Z6 at *
    have hX6 := bal (bal (bal (bal (Below.refl _ Z6) (.cells #[.int .i64 1, .int .i64 1] 3)) (.cells #[.int .i64 2, .int .i64 2] 3)) (.cells #[.int .i64 0, .int .i64 0] 3)) (.cells #[.slice (some ⟨w6.heap.size + 1, 0, none⟩) 2 2, .slice (some ⟨w6.heap.size + 1 + 1, 0, none⟩) 2 2, .slice (some ⟨w6.heap.size + 1 + 1 + 1, 0, none⟩) 2 2] 41)
    have hL6 := lit_mR' Z6 (w6.heap.size + 1) hz6
    generalize w6.heap.size = b6 at *
    refine (road_mR _ _ hL6).mono ?_
    rintro e w7 ⟨rfl, h7⟩
    have b7 := btr hX6 h7
    clear hL6
    have b8 := bal b7 (.cells #[.slice none 0 0] 24)
    have q8 := (b8.cell (p := ⟨b4, 0, none⟩) (World.block_lt_of_cell? _ _ q7)).trans q7
    have q9 := (b8.cell (p := ⟨b6, 0, none⟩) (World.block_lt_of_cell? _ _ q6)).trans q6
    have hrb8 := hrb6.below b8
    have hM10 := hM8.below b8
    have hM11 := hM9.below b8
    have B8 := btr B6 b8
    clear hX6 h7 b7 b8 q7 q6 hrb6 hM8 hM9 B6
    have hz8 : (w7.alloc (.cells #[.slice none 0 0] 24)).heap.size = w7.heap.size + 1 := by simp
    go_wp2_with fail
    generalize w7.alloc (.cells #[.slice none 0 0] 24) = Z8 at *
    have hX8 := bal (bal (bal (Below.refl _ Z8) (.cells #[.int .i64 1, .int .i64 0] 3)) (.cells #[.int .i64 1, .int .i64 0] 3)) (.cells #[.slice (some ⟨w7.heap.size + 1, 0, none⟩) 2 2, .slice (some ⟨w7.heap.size + 1 + 1, 0, none⟩) 2 2] 41)
    have hL8 := lit2_rows' Z8 1 0 1 0 (w7.heap.size + 1) hz8
    refine (rSames_eq _ _ [[1, 0], [1, 0]] _ (hrb8.below hX8) hL8).mono ?_
    rintro e w9 ⟨rfl, h9⟩
    have b9 := btr hX8 h9
    have q10 := (b9.cell (p := ⟨b6, 0, none⟩) (World.block_lt_of_cell? _ _ q9)).trans q9
    have hM12 := hM10.below b9
    have hM13 := hM11.below b9
    have B9 := btr B8 b9
    clear hX8 hL8 h9 b9 q9 hrb8 hM10 hM11 B8 q8
    go_wp2_with fail
    refine (rValid_bool _ M true _ hM12 hM2).mono ?_
    rintro e w10 ⟨rfl, h10⟩
    have q11 := (h10.cell (p := ⟨b6, 0, none⟩) (World.block_lt_of_cell? _ _ q10)).trans q10
    go_wp2_with fail
    refine (rResets_yes _ _ M ul _ (hM12.below h10) (hM13.below h10) hM2 hM6 (by rw [Hml.out]; exact hM7)).mono ?_
    rintro e w11 ⟨rfl, h11⟩
    have B11 := btr B9 (btr h10 h11)
    go_wp2
    go_ret
    exact ⟨rfl, btr hX B11⟩
  · rw [m5a_perms] at hf
    cases hf
end Go.Proofs.YtlpfglkopnmlnaaDoor
namespace Go.Proofs.YtlpfglkopnmlnaaDoor
open Go.RowKit Go.Shelf
/-- Colored of any automaton and lists. -/
def coE (m p : List (List Int)) : Int := if validM m = true then (if permsM m p = true then 0 else 2) else 1
def coV (m p : List (List Int)) : List (List Int) := if validM m = true ∧ permsM m p = true then colM m p else []
theorem rows_nil (w : World) : Rows w (.slice none 0 0) [] := ⟨none, 0, rfl, by unfold big; simp, fun i hi => by simp at hi⟩
theorem Colored_any (v u : Value) (m p : List (List Int)) (w : World) (h : Rows w v m) (hu : Rows w u p) :
    Calls Tryd.prog 10 #[.agg #[v], u] w fun e w' => ∃ r c, e = .returned (.tuple #[.agg #[.slice r (coV m p).length c], .int .i64 (coE m p)]) ∧ Rows w' (.slice r (coV m p).length c) (coV m p) ∧ Below w.heap.size w w' := by
  unfold coE coV
  cases hv : validM m with
  | false =>
    refine (Colored_form v u m p w h hu hv).mono ?_
    rintro e w1 ⟨rfl, hb⟩
    exact ⟨none, 0, rfl, rows_nil _, hb⟩
  | true =>
    by_cases hl : p.length = m.length
    · refine (Colored_same v u m p w h hu hv hl).mono ?_
      rintro e w1 (⟨hp, r, rfl, hr, hb⟩ | ⟨hp, rfl, hb⟩)
      · obtain ⟨A, c, rfl, -⟩ := id hr
        refine ⟨A, c, ?_, ?_, hb⟩
        · simp [hp]
        · simpa [hp] using hr
      · refine ⟨none, 0, ?_, ?_, hb⟩
        · simp [hp]
        · simpa [hp] using rows_nil _
    · have hp : permsM m p = false := by rw [permsM, decide_eq_false hl]; rfl
      refine (Colored_len v u m p w h hu hv hl).mono ?_
      rintro e w1 ⟨rfl, hb⟩
      refine ⟨none, 0, ?_, ?_, hb⟩
      · simp [hp]
      · simpa [hp] using rows_nil _
theorem Same_anyH (v u : Value) (m k : List (List Int)) (b : Bool) (x : Int) (w : World) (h : Rows w v m) (hu : Rows w u k) (hb : Hid (sameOk m k = b)) (hx : Hid (sameE m k = x)) :
    Calls Tryd.prog 11 #[.agg #[v], .agg #[u]] w fun e w' => e = .returned (.tuple #[.bool b, .int .i64 x]) ∧ Below w.heap.size w w' := by
  rw [← hb.out, ← hx.out]; exact Same_any v u m k w h hu
set_option maxRecDepth 100000 in
set_option maxHeartbeats 4000000 in
theorem colorMakes_any (v u t : Value) (m k p : List (List Int)) (w : World) (hT : Tab w) (h : Rows w v m) (hu : Rows w u k) (ht : Rows w t p) :
    Calls Tryd.prog 3 #[.agg #[v], .agg #[u], t] w fun e w' => e = .returned (.bool true) ∧ Below w.heap.size w w' := by
  have Aw := hid awake5_any
  obtain ⟨A, cap, rfl, hml, -⟩ := id h
  obtain ⟨Ak, capk, rfl, hkl, -⟩ := id hu
  obtain ⟨f0, f1⟩ := two_alloc w (.cells #[.slice A m.length cap] 24) (.cells #[.slice Ak k.length capk] 24)
  have hX := bal (bal (Below.refl _ w) (.cells #[.slice A m.length cap] 24)) (.cells #[.slice Ak k.length capk] 24)
  have Hx := hid hX
  have hTX := hT.on hX
  have hml2 := hid hml
  have hkl2 := hid hkl
  clear hml hkl
  go_enter Tryd.func3, Tryd.ntmps3
  go_upto_region 1 with fail
  generalize hWX : (w.alloc (.cells #[.slice A m.length cap] 24)).alloc (.cells #[.slice Ak k.length capk] 24) = X at *
  clear hX hWX
  have hX := Hx.out
  have c0 := cell_of_one f0
  have c1 := cell_of_one f1
  have hr := h.below hX
  have hs := hu.below hX
  have hp := ht.below hX
  have hcol := Colored_any _ t m p X hr hp
  obtain ⟨ce, hce⟩ : ∃ c, coE m p = c := ⟨_, rfl⟩
  obtain ⟨cv, hcv⟩ : ∃ c, coV m p = c := ⟨_, rfl⟩
  obtain ⟨sb, hsb⟩ : ∃ c, sameOk m k = c := ⟨_, rfl⟩
  obtain ⟨se, hse⟩ : ∃ c, sameE m k = c := ⟨_, rfl⟩
  rw [hce, hcv] at hcol
  have Hce := hid hce
  have Hcv := hid hcv
  have Hsb := hid hsb
  have Hse := hid hse
  clear f0 f1 hce hcv hsb hse h hu ht
  go_wp2_with fail
  refine hcol.mono ?_
  rintro e w1 ⟨rA, rc, rfl, hcR, h1⟩
  have b1 := bal h1 (.cells #[.slice rA cv.length rc] 24)
  have q1 := (Boxed.new w1 24 (.slice rA cv.length rc)).cell
  have hcR1 : Rows (w1.alloc (.cells #[.slice rA cv.length rc] 24)) (.slice rA cv.length rc) cv := hcR.alloc _
  have d0 := (b1.cell (p := ⟨w.heap.size, 0, none⟩) (World.block_lt_of_cell? _ _ c0)).trans c0
  have d1 := (b1.cell (p := ⟨w.heap.size + 1, 0, none⟩) (World.block_lt_of_cell? _ _ c1)).trans c1
  have hr1 := hr.below b1
  have hs1 := hs.below b1
  have hp1 := hp.below b1
  clear hcR hcol c0 c1 hr hs hp h1
  go_wp2_with fail
  generalize w1.alloc (.cells #[.slice rA cv.length rc] 24) = Y at *
  generalize w1.heap.size = b7 at *
  refine (Same_anyH _ _ m k sb se Y hr1 hs1 Hsb Hse).mono ?_
  rintro e w2 ⟨rfl, h2⟩
  have b2 := bal h2 (.cells #[.slice none 0 0] 24)
  have q2 := Boxed.new w2 24 (.slice none 0 0)
  have e0 := (b2.cell (p := ⟨w.heap.size, 0, none⟩) (World.block_lt_of_cell? _ _ d0)).trans d0
  have e1 := (b2.cell (p := ⟨w.heap.size + 1, 0, none⟩) (World.block_lt_of_cell? _ _ d1)).trans d1
  have q7 := (b2.cell (p := ⟨b7, 0, none⟩) (World.block_lt_of_cell? _ _ q1)).trans q1
  have hr2 := hr1.below b2
  have hs2 := hs1.below b2
  have hp2 := hp1.below b2
  have hc2 := hcR1.below b2
  have B2 := btr b1 b2
  have hl7 := Nat.lt_of_lt_of_le (World.block_lt_of_cell? _ _ q1) h2.size
  have hl0 := Nat.lt_of_lt_of_le (World.block_lt_of_cell? _ _ d0) h2.size
  have hl1 := Nat.lt_of_lt_of_le (World.block_lt_of_cell? _ _ d1) h2.size
  simp only at hl7 hl0 hl1
  have Y0 := hid (And.intro d0 (And.intro d1 (And.intro q1 (And.intro hr1 (And.intro hs1 hcR1)))))
  have HY := hid (show Below Y.heap.size Y _ from b2)
  have HXY := hid (show Below X.heap.size X Y from b1)
  have HYl := hid h2.size
  clear d0 d1 q1 hr1 hs1 hp1 hcR1 h2 b1 b2
  have q11 := q2.cell
  have q11f := q2.frozen
  go_upto_region 6 with fail
  generalize hZ : w2.alloc (.cells #[.slice none 0 0] 24) = Z at *
  clear hZ
  generalize hb11 : w2.heap.size = b11 at *
  clear hb11
  cases hv : validM m with
  | false =>
    have Hc0 := hid (show ce = 1 from by rw [← Hce.out, coE, hv]; rfl)
    have Hc1 := hid (show cv = [] from by rw [← Hcv.out, coV, hv]; simp)
    obtain rfl := Hc0.out
    obtain rfl := Hc1.out
    go_wp2_with fail
    refine (rValid_bool _ m false _ hr2 hv).mono ?_
    rintro e w3 ⟨rfl, h3⟩
    have q12 := (h3.cell (p := ⟨b11, 0, none⟩) (World.block_lt_of_cell? _ _ q11)).trans q11
    have q8 := (h3.cell (p := ⟨b7, 0, none⟩) (World.block_lt_of_cell? _ _ q7)).trans q7
    go_wp2_with fail
    refine (rSames_eq _ _ [] _ (hc2.below h3) (rows_nil _)).mono ?_
    rintro e w5 ⟨rfl, h5⟩
    have N5 := btr h3 h5
    have e0 := (N5.cell (p := ⟨w.heap.size, 0, none⟩) (World.block_lt_of_cell? _ _ e0)).trans e0
    have Hs0 := hid (show sb = false from by rw [← Hsb.out, sameOk, hv]; rfl)
    have Hs1 := hid (show se = 1 from by rw [← Hse.out, sameE, hv]; rfl)
    obtain rfl := Hs0.out
    obtain rfl := Hs1.out
    go_wp2_with fail
    refine (rValid_bool _ m false _ (hr2.below N5) hv).mono ?_
    rintro e y1 ⟨rfl, j1⟩
    have J1 := btr N5 j1
    go_wp2_with fail
    refine (Aw.out _ (hTX.on (btr B2 J1))).mono ?_
    rintro e y2 ⟨rfl, j2⟩
    go_wp2
    go_ret
    exact ⟨rfl, btr hX (btr (btr B2 J1) j2)⟩
  | true =>
    cases hpm : permsM m p with
    | false =>
      have Hc0 := hid (show ce = 2 from by rw [← Hce.out, coE, hv, hpm]; rfl)
      have Hc1 := hid (show cv = [] from by rw [← Hcv.out, coV, hv, hpm]; simp)
      obtain rfl := Hc0.out
      obtain rfl := Hc1.out
      go_wp2_with fail
      refine (rValid_bool _ m true _ hr2 hv).mono ?_
      rintro e w3 ⟨rfl, h3⟩
      have e2 := (h3.cell (p := ⟨w.heap.size, 0, none⟩) (World.block_lt_of_cell? _ _ e0)).trans e0
      go_wp2_with fail
      refine (rPerms_bool _ _ m p false _ (hr2.below h3) hv (hp2.below h3) hpm).mono ?_
      rintro e w4 ⟨rfl, h4⟩
      have N4 := btr h3 h4
      have q12 := (N4.cell (p := ⟨b11, 0, none⟩) (World.block_lt_of_cell? _ _ q11)).trans q11
      have q8 := (N4.cell (p := ⟨b7, 0, none⟩) (World.block_lt_of_cell? _ _ q7)).trans q7
      go_wp2_with fail
      refine (rSames_eq _ _ [] _ (hc2.below N4) (rows_nil _)).mono ?_
      rintro e w5 ⟨rfl, h5⟩
      have N5 := btr N4 h5
      have e0' := (N5.cell (p := ⟨w.heap.size, 0, none⟩) (World.block_lt_of_cell? _ _ e0)).trans e0
      cases hk : validM k with
      | false =>
        have Hs0 := hid (show sb = false from by rw [← Hsb.out, sameOk, hv, hk]; rfl)
        have Hs1 := hid (show se = 1 from by rw [← Hse.out, sameE, hv, hk]; rfl)
        obtain rfl := Hs0.out
        obtain rfl := Hs1.out
        go_wp2_with fail
        refine (rValid_bool _ m true _ (hr2.below N5) hv).mono ?_
        rintro e y1 ⟨rfl, j1⟩
        have J1 := btr N5 j1
        have g1 := (J1.cell (p := ⟨w.heap.size + 1, 0, none⟩) (World.block_lt_of_cell? _ _ e1)).trans e1
        go_wp2_with fail
        refine (rValid_bool _ k false _ (hs2.below J1) hk).mono ?_
        rintro e y2 ⟨rfl, j2⟩
        have J2 := btr J1 j2
        go_wp2_with fail
        refine (Aw.out _ (hTX.on (btr B2 J2))).mono ?_
        rintro e y3 ⟨rfl, j3⟩
        go_wp2
        go_ret
        exact ⟨rfl, btr hX (btr (btr B2 J2) j3)⟩
      | true =>
        have Hs0 := hid (show sameM m k = sb from by rw [← Hsb.out, sameOk, hv, hk]; rfl)
        have Hs1 := hid (show se = 0 from by rw [← Hse.out, sameE, hv, hk]; rfl)
        obtain rfl := Hs1.out
        go_wp2_with fail
        refine (rValid_bool _ m true _ (hr2.below N5) hv).mono ?_
        rintro e y1 ⟨rfl, j1⟩
        have J1 := btr N5 j1
        have g1 := (J1.cell (p := ⟨w.heap.size + 1, 0, none⟩) (World.block_lt_of_cell? _ _ e1)).trans e1
        go_wp2_with fail
        refine (rValid_bool _ k true _ (hs2.below J1) hk).mono ?_
        rintro e y2 ⟨rfl, j2⟩
        have J2 := btr J1 j2
        have g0 := (J2.cell (p := ⟨w.heap.size, 0, none⟩) (World.block_lt_of_cell? _ _ e0)).trans e0
        have g2 := (J2.cell (p := ⟨w.heap.size + 1, 0, none⟩) (World.block_lt_of_cell? _ _ e1)).trans e1
        go_wp2_with fail
        refine (rSameA_bool _ _ m k sb _ (hr2.below J2) (hs2.below J2) hv hk Hs0.out).mono ?_
        rintro e y3 ⟨rfl, j3⟩
        have J3 := btr J2 j3
        have hbb : (sb == sb) = true := by simp
        go_wp2_with fail
        refine (Aw.out _ (hTX.on (btr B2 J3))).mono ?_
        rintro e y4 ⟨rfl, j4⟩
        go_wp2
        go_ret
        exact ⟨rfl, btr hX (btr (btr B2 J3) j4)⟩
    | true =>
      have Hc0 := hid (show ce = 0 from by rw [← Hce.out, coE, hv, hpm]; rfl)
      have Hc1 := hid (show cv = colM m p from by rw [← Hcv.out, coV, hv, hpm]; simp)
      obtain rfl := Hc0.out
      go_wp2_with fail
      refine (rValid_bool _ m true _ hr2 hv).mono ?_
      rintro e w3 ⟨rfl, h3⟩
      have e2 := (h3.cell (p := ⟨w.heap.size, 0, none⟩) (World.block_lt_of_cell? _ _ e0)).trans e0
      go_wp2_with fail
      refine (rPerms_bool _ _ m p true _ (hr2.below h3) hv (hp2.below h3) hpm).mono ?_
      rintro e w4 ⟨rfl, h4⟩
      have N4 := btr h3 h4
      have e3 := (N4.cell (p := ⟨w.heap.size, 0, none⟩) (World.block_lt_of_cell? _ _ e0)).trans e0
      have hrc := rColored_any _ _ m p _ (hr2.below N4) (hp2.below N4) hv hpm
      rw [← Hc1.out] at hrc
      go_wp2_with fail
      refine hrc.mono ?_
      rintro e w5 ⟨r5, rfl, hM5, h5⟩
      have N5 := btr N4 h5
      obtain ⟨sA, sc, rfl, -⟩ := hM5.slice
      have g11 : Boxed w5 b11 24 (.slice none 0 0) := (N5.block _ q2.lt).trans q2
      have g11c := g11.cell
      have g11f := g11.frozen
      have hl11 := q2.lt
      have hcl : cv.length ≤ big := by rw [Hc1.out, colM_length]; exact hml2.out
      have hzl := N4.size
      have hyl := HYl.out
      have hzl2 := HY.out.size
      have hR5 := ((hM5.kept (W' := w5.setCell ⟨b11, 0, none⟩ (.slice sA cv.length sc)) (fun q hq _ => Below.heap_setCell _ _ _ _ (by simp; omega))).rows hcl)
      have hVY : Below Y.heap.size Y (w5.setCell ⟨b11, 0, none⟩ (.slice sA cv.length sc)) := (HY.out.trans (N5.mono (by omega))).setCell (p := ⟨b11, 0, none⟩) (by show Y.heap.size ≤ b11; omega) _
      obtain ⟨y0, y1, y7, yr, ys, yc⟩ := Y0.out
      have j0 := (hVY.cell (p := ⟨w.heap.size, 0, none⟩) (World.block_lt_of_cell? _ _ y0)).trans y0
      have j1 := (hVY.cell (p := ⟨w.heap.size + 1, 0, none⟩) (World.block_lt_of_cell? _ _ y1)).trans y1
      have j7 := (hVY.cell (p := ⟨b7, 0, none⟩) (World.block_lt_of_cell? _ _ y7)).trans y7
      have j11 := (g11.set (.slice sA cv.length sc)).cell
      have hrV := yr.below hVY
      have hsV := ys.below hVY
      have hcV := yc.below hVY
      have BV := btr HXY.out hVY
      have hrV2 := hid hR5
      have e3c := e3
      clear hM5 hR5 y0 y1 y7 yr ys yc hVY hr2 hs2 hp2 hc2 e0 e1 e2 e3 e3c q7 q11 q11f B2 N4 N5 h3 h4 h5 hrc
      go_wp2_with fail
      generalize w5.setCell ⟨b11, 0, none⟩ (.slice sA cv.length sc) = V at *
      have N0 := Below.refl V.heap.size V
      refine (rSames_eq _ _ cv _ hcV hrV2.out).mono ?_
      rintro e w6 ⟨rfl, h6⟩
      have e0 := j0
      have e1 := j1
      have hr2 := hrV
      have hs2 := hsV
      have B2 := BV
      have k0 := (h6.cell (p := ⟨w.heap.size, 0, none⟩) (World.block_lt_of_cell? _ _ j0)).trans j0
      cases hk : validM k with
      | false =>
        have Hs0 := hid (show sb = false from by rw [← Hsb.out, sameOk, hv, hk]; rfl)
        have Hs1 := hid (show se = 1 from by rw [← Hse.out, sameE, hv, hk]; rfl)
        obtain rfl := Hs0.out
        obtain rfl := Hs1.out
        go_wp2_with fail
        refine (rValid_bool _ m true _ (hr2.below h6) hv).mono ?_
        rintro e y1 ⟨rfl, j1⟩
        have J1 := btr h6 j1
        have g1 := (J1.cell (p := ⟨w.heap.size + 1, 0, none⟩) (World.block_lt_of_cell? _ _ e1)).trans e1
        go_wp2_with fail
        refine (rValid_bool _ k false _ (hs2.below J1) hk).mono ?_
        rintro e y2 ⟨rfl, j2⟩
        have J2 := btr J1 j2
        go_wp2_with fail
        refine (Aw.out _ (hTX.on (btr B2 J2))).mono ?_
        rintro e y3 ⟨rfl, j3⟩
        go_wp2
        go_ret
        exact ⟨rfl, btr hX (btr (btr B2 J2) j3)⟩
      | true =>
        have Hs0 := hid (show sameM m k = sb from by rw [← Hsb.out, sameOk, hv, hk]; rfl)
        have Hs1 := hid (show se = 0 from by rw [← Hse.out, sameE, hv, hk]; rfl)
        obtain rfl := Hs1.out
        go_wp2_with fail
        refine (rValid_bool _ m true _ (hr2.below h6) hv).mono ?_
        rintro e y1 ⟨rfl, j1⟩
        have J1 := btr h6 j1
        have g1 := (J1.cell (p := ⟨w.heap.size + 1, 0, none⟩) (World.block_lt_of_cell? _ _ e1)).trans e1
        go_wp2_with fail
        refine (rValid_bool _ k true _ (hs2.below J1) hk).mono ?_
        rintro e y2 ⟨rfl, j2⟩
        have J2 := btr J1 j2
        have g0 := (J2.cell (p := ⟨w.heap.size, 0, none⟩) (World.block_lt_of_cell? _ _ e0)).trans e0
        have g2 := (J2.cell (p := ⟨w.heap.size + 1, 0, none⟩) (World.block_lt_of_cell? _ _ e1)).trans e1
        go_wp2_with fail
        refine (rSameA_bool _ _ m k sb _ (hr2.below J2) (hs2.below J2) hv hk Hs0.out).mono ?_
        rintro e y3 ⟨rfl, j3⟩
        have J3 := btr J2 j3
        have hbb : (sb == sb) = true := by simp
        go_wp2_with fail
        refine (Aw.out _ (hTX.on (btr B2 J3))).mono ?_
        rintro e y4 ⟨rfl, j4⟩
        go_wp2
        go_ret
        exact ⟨rfl, btr hX (btr (btr B2 J3) j4)⟩
end Go.Proofs.YtlpfglkopnmlnaaDoor
namespace Go.Proofs.YtlpfglkopnmlnaaDoor
open Go.RowKit Go.Shelf
theorem held_both {w1 w' : World} {p q : Addr} {a b : Value} (h1 : w1.cell? p = some a) (h2 : w1.cell? q = some b) (hb : Below w1.heap.size w1 w') : Below w1.heap.size w1 w' ∧ w'.cell? p = some a ∧ w'.cell? q = some b :=
  ⟨hb, (hb.cell (World.block_lt_of_cell? _ _ h1)).trans h1, (hb.cell (World.block_lt_of_cell? _ _ h2)).trans h2⟩
/-- A colouring of a strongly connected automaton. -/
theorem col_per {m p : List (List Int)} (hv : validM m = true) (hp : permsM m p = true) (hc : connM m = true) : validM (colM m p) = true ∧ connM (colM m p) = true ∧ perM (colM m p) = perM m ∧ letters (colM m p) = letters m := by
  have h1 := colM_valid hv hp
  have h2 := alike_of hv h1 (colM_same hv hp)
  exact ⟨h1, (connM_alike hv h1 h2).symm.trans hc, (perM_alike hv h1 h2 hc).symm, colM_letters hv hp⟩
theorem word_lets {m k : List (List Int)} (h : letters k = letters m) (u : List Int) : isWordM k u = isWordM m u := by unfold isWordM; rw [h]
theorem no_merge {m : List (List Int)} (hv : validM m = true) (hc : connM m = true) (hp : 1 < perM m) : ¬ allMerge m := fun ha => by
  have h1 := per_image hv hc (resetW_word hv ha)
  rw [reset_one hv ha] at h1
  omega
set_option maxRecDepth 100000 in
set_option maxHeartbeats 4000000 in
theorem colorPeriods_any (v t u : Value) (m p : List (List Int)) (ul : List Int) (w : World) (hT : Tab w) (h : Rows w v m) (ht : Rows w t p) (hu : Ints w u ul) :
    Calls Tryd.prog 6 #[.agg #[v], t, u] w fun e w' => e = .returned (.bool true) ∧ Below w.heap.size w w' := by
  have Aw := hid awake5_any
  obtain ⟨A, cap, rfl, hml, -⟩ := id h
  have hX := bal (Below.refl _ w) (.cells #[.slice A m.length cap] 24)
  have hbx := (Boxed.new w 24 (.slice A m.length cap)).cell
  go_enter Tryd.func6, Tryd.ntmps6
  go_wp2_with fail
  have hr := h.below hX
  have hp := ht.below hX
  have huX := hu.below hX
  have hTX := hT.on hX
  generalize w.alloc (.cells #[.slice A m.length cap] 24) = X at *
  have hlt := World.block_lt_of_cell? _ _ hbx
  cases hv : validM m with
  | false =>
    refine (rValid_bool _ m false _ hr hv).mono ?_
    rintro e w1 ⟨rfl, h1⟩
    go_wp2_with fail
    refine (Aw.out _ (hTX.on h1)).mono ?_
    rintro e w2 ⟨rfl, h2⟩
    go_wp2
    go_ret
    exact ⟨rfl, btr hX (btr h1 h2)⟩
  | true =>
    refine (rValid_bool _ m true _ hr hv).mono ?_
    rintro e w1 ⟨rfl, h1⟩
    have c1 := (h1.cell (p := ⟨w.heap.size, 0, none⟩) hlt).trans hbx
    go_wp2_with fail
    cases hpm : permsM m p with
    | false =>
      refine (rPerms_bool _ _ m p false _ (hr.below h1) hv (hp.below h1) hpm).mono ?_
      rintro e w2 ⟨rfl, h2⟩
      have B2 := btr h1 h2
      go_wp2_with fail
      refine (Aw.out _ (hTX.on B2)).mono ?_
      rintro e w3 ⟨rfl, h3⟩
      go_wp2
      go_ret
      exact ⟨rfl, btr hX (btr B2 h3)⟩
    | true =>
      refine (rPerms_bool _ _ m p true _ (hr.below h1) hv (hp.below h1) hpm).mono ?_
      rintro e w2 ⟨rfl, h2⟩
      have B2 := btr h1 h2
      have c2 := (B2.cell (p := ⟨w.heap.size, 0, none⟩) hlt).trans hbx
      go_wp2_with fail
      cases hw : isWordM m ul with
      | false =>
        refine (rWord_bool _ _ m ul false _ (hr.below B2) hv (huX.below B2) hw).mono ?_
        rintro e w3 ⟨rfl, h3⟩
        have B3 := btr B2 h3
        go_wp2_with fail
        refine (Aw.out _ (hTX.on B3)).mono ?_
        rintro e w4 ⟨rfl, h4⟩
        go_wp2
        go_ret
        exact ⟨rfl, btr hX (btr B3 h4)⟩
      | true =>
        refine (rWord_bool _ _ m ul true _ (hr.below B2) hv (huX.below B2) hw).mono ?_
        rintro e w3 ⟨rfl, h3⟩
        have B3 := btr B2 h3
        have c3 := (B3.cell (p := ⟨w.heap.size, 0, none⟩) hlt).trans hbx
        clear c1 c2 h1 h2 h3 B2
        go_wp2_with fail
        cases hc : connM m with
        | false =>
          refine (Period_any _ m 0 2 _ (hr.below B3) (.inr ⟨.inr ⟨hv, hc, rfl⟩, rfl⟩)).mono ?_
          rintro e w4 ⟨rfl, h4⟩
          have B4 := btr B3 h4
          go_wp2_with fail
          refine (Aw.out _ (hTX.on B4)).mono ?_
          rintro e w5 ⟨rfl, h5⟩
          go_wp2
          go_ret
          exact ⟨rfl, btr hX (btr B4 h5)⟩
        | true =>
          obtain ⟨d, hd⟩ : ∃ d, perM m = d := ⟨_, rfl⟩
          obtain ⟨k1, k2, k3, k4⟩ := col_per hv hpm hc
          have hd1 : 1 ≤ d := by rw [← hd]; exact perM_pos hv hc
          have hwk : isWordM (colM m p) ul = true := by rw [word_lets k4]; exact hw
          have hpi := per_image k1 k2 hwk
          have hno := hid (fun (h : 1 < d) => no_merge k1 k2 (by rw [k3, hd]; exact h))
          have hkl := colM_length m p
          rw [k3, hd] at hpi
          have hE := hid (show coE m p = 0 from by rw [coE, hv, hpm]; rfl)
          have hV := hid (show coV m p = colM m p from by rw [coV, hv, hpm]; simp)
          obtain ⟨K, hK⟩ : ∃ K, colM m p = K := ⟨_, rfl⟩
          rw [hK] at k1 k2 k3 k4 hwk hpi hno hkl hV
          rw [hkl] at hpi
          have hset := allM_set K
          rw [hkl] at hset
          obtain ⟨AL, HAL⟩ : ∃ L, Hid (allM m.length = L) := ⟨_, hid rfl⟩
          rw [HAL.out] at hset hpi
          obtain ⟨I, HI⟩ : ∃ L, Hid (imageM K AL ul = L) := ⟨_, hid rfl⟩
          rw [HI.out] at hpi
          have hp1 := (valid_parts hv).2.1
          have Hd := hid hd
          have Hkl := hid hkl
          have Hk3 := hid k3
          have hcol := Colored_any (.slice A m.length cap) t m p
          rw [hE.out, hV.out, Hkl.out] at hcol
          have Hcol := hid hcol
          clear hcol hd hkl hK k3
          refine (Period_any _ m d 0 _ (hr.below B3) (.inl ⟨hc, hv, by rw [Hd.out], rfl⟩)).mono ?_
          rintro e w4 ⟨rfl, h4⟩
          have B4 := btr B3 h4
          have c4 := (B4.cell (p := ⟨w.heap.size, 0, none⟩) hlt).trans hbx
          clear c3 B3 h4
          go_wp2_with fail
          refine (Hcol.out _ (hr.below B4) (hp.below B4)).mono ?_
          rintro e w5 ⟨rA, rc, rfl, hRK, h5⟩
          have b5 := bal h5 (.cells #[.slice rA m.length rc] 24)
          have q5 := (Boxed.new w5 24 (.slice rA m.length rc)).cell
          have hRK5 : Rows (w5.alloc (.cells #[.slice rA m.length rc] 24)) (.slice rA m.length rc) K := hRK.alloc _
          have B5 := btr B4 b5
          have c5 := (B5.cell (p := ⟨w.heap.size, 0, none⟩) hlt).trans hbx
          clear c4 B4 h5 b5 hRK Hcol
          go_upto_region 7 with fail
          generalize w5.alloc (.cells #[.slice rA m.length rc] 24) = Y at *
          generalize w5.heap.size = b9 at *
          have hTY := hTX.on B5
          have huY := huX.below B5
          have hlb9 := World.block_lt_of_cell? _ _ q5
          go_cut [11, 12] from 44 to 52 (fun r e wc => e = .int .i64 0 ∧ (∃ A c, r = .slice A I.length c) ∧ Below Y.heap.size Y wc)
          case first =>
            go_region_held (fun w' => Below Y.heap.size Y w' ∧ w'.cell? ⟨w.heap.size, 0, none⟩ = some (.slice A m.length cap) ∧ w'.cell? ⟨b9, 0, none⟩ = some (.slice rA m.length rc)) (exact held_both c5 q5 (by first | exact below_dr Y 1 | assumption)) (first
              | (go_at_call 28; go_must (refine (rAll_as m.length AL _ (by omega) HAL).mono ?_; rintro e y1 ⟨r1, rfl, i1, hy1⟩; have k1 : Below Y.heap.size Y y1 := btr (by first | exact below_dr Y 1 | exact Below.refl _ _) hy1))
              | (go_at_call 27; go_must (refine (Image_as _ _ _ K AL ul I _ (hTY.on k1) (hRK5.below k1) i1 (huY.below k1) (by assumption) hset hwk HI).mono ?_; rintro e y2 ⟨r2, rfl, i2, hy2⟩; have k2 : Below Y.heap.size Y y2 := btr k1 hy2; obtain ⟨A2, q2, rfl, _⟩ := id i2)))
            all_goals (go_wp2_with fail; go_meet; exact ⟨rfl, ⟨_, _, rfl⟩, k2⟩)
          case rest =>
            obtain ⟨rfl, ⟨A11, q11, rfl⟩, C0⟩ := hcut
            have d9 := (C0.cell (p := ⟨b9, 0, none⟩) hlb9).trans q5
            have hRKc := hRK5.below C0
            have BC := btr B5 C0
            have hTc := hTX.on BC
            have hd0 : decide (I.length < d) = false := decide_eq_false (by omega)
            have hd00 : decide ((I.length : Int) < (d : Int)) = false := decide_eq_false (by omega)
            clear c5 q5 hRK5 B5 C0 HAL HI
            by_cases hd2 : d = 1
            · subst hd2
              go_wp2_with fail
              refine (Aw.out _ hTc).mono ?_
              rintro e w6 ⟨rfl, h6⟩
              go_wp2
              go_ret
              exact ⟨rfl, btr hX (btr BC h6)⟩
            · have hd3 : ((d : Int) == 1) = false := by simp; omega
              have hnm := hno.out (by omega)
              have hd4 : (d == 1) = false := by simp; omega
              go_wp2_with fail
              refine (Reset_none _ K _ hRKc (by assumption) hnm).mono ?_
              rintro e w6 ⟨rfl, h6⟩
              have d10 := (h6.cell (p := ⟨b9, 0, none⟩) (World.block_lt_of_cell? _ _ d9)).trans d9
              go_wp2_with fail
              refine (Road_err _ K d 0 4 _ (hRKc.below h6) (.inl ⟨by assumption, by assumption, by rw [Hk3.out, Hd.out], rfl⟩) (.inr ⟨rfl, by omega, rfl⟩)).mono ?_
              rintro e w7 ⟨rfl, h7⟩
              have B7 := btr BC (btr h6 h7)
              go_wp2_with fail
              refine (Aw.out _ (hTX.on B7)).mono ?_
              rintro e w8 ⟨rfl, h8⟩
              go_wp2
              go_ret
              exact ⟨rfl, btr hX (btr B7 h8)⟩
end Go.Proofs.YtlpfglkopnmlnaaDoor
namespace Go.Proofs.YtlpfglkopnmlnaaDoor
open Go.RowKit Go.Shelf
theorem permsM_len {m k : List (List Int)} (h1 : k.length = m.length) (h2 : letters k = letters m) (p : List (List Int)) : permsM k p = permsM m p := by unfold permsM; rw [h1, h2]
theorem PermR.trans {m k l : List (List Int)} (h : PermR m k) (h2 : PermR k l) : PermR m l :=
  ⟨h2.1.trans h.1, fun s hs => (h2.2 s (by have := h.1; omega)).trans (h.2 s hs)⟩
theorem colM_permR {m p : List (List Int)} (hv : validM m = true) (hp : permsM m p = true) : PermR m (colM m p) :=
  ⟨colM_length m p, fun s hs => by rw [colM_get m p s hs]; exact colRow_perm hv hp hs⟩
theorem PermR.count {m k : List (List Int)} (h : PermR m k) : colTo m 1152921504606846976 m.length = colTo k 1152921504606846976 k.length := by
  rw [h.1]
  exact colTo_perm h.1.symm (fun s hs => (h.2 s hs).symm) _ _ (Nat.le_refl _)
set_option maxRecDepth 100000 in
set_option maxHeartbeats 1000000 in
theorem all_any (v u : Value) (m k : List (List Int)) (w : World) (h : Rows w v m) (hu : Rows w u k) (hv : validM m = true) (hk : validM k = true) (hs : sameM m k = true) :
    Calls Tryd.prog 30 #[.agg #[v], .agg #[u]] w fun e w' => e = .returned (.bool true) ∧ Below w.heap.size w w' := by
  obtain ⟨A, cap, rfl, -⟩ := id h
  obtain ⟨Ak, capk, rfl, -⟩ := id hu
  obtain ⟨f0, f1⟩ := two_alloc w (.cells #[.slice A m.length cap] 24) (.cells #[.slice Ak k.length capk] 24)
  have hX := bal (bal (Below.refl _ w) (.cells #[.slice A m.length cap] 24)) (.cells #[.slice Ak k.length capk] 24)
  have Hx := hid hX
  have s1 := hid (show sameOk m k = true by rw [sameOk, hv, hk, hs]; rfl)
  have s2 := hid (show sameOk k m = true by rw [sameOk, hv, hk, sameM_symm hs]; rfl)
  have s3 := hid (show sameE m k = 0 by rw [sameE, hv, hk]; rfl)
  have s4 := hid (show sameE k m = 0 by rw [sameE, hv, hk]; rfl)
  go_enter Tryd.func30, Tryd.ntmps30
  go_upto_region 1 with fail
  generalize hWX : (w.alloc (.cells #[.slice A m.length cap] 24)).alloc (.cells #[.slice Ak k.length capk] 24) = X at *
  clear hX hWX
  have hX := Hx.out
  have c0 := cell_of_one f0
  have c1 := cell_of_one f1
  have hr := h.below hX
  have hs := hu.below hX
  clear f0 f1
  go_wp2_with fail
  refine (Same_anyH _ _ m k true 0 X hr hs s1 s3).mono ?_
  rintro e w1 ⟨rfl, h1⟩
  have d0 := (h1.cell (p := ⟨w.heap.size, 0, none⟩) (World.block_lt_of_cell? _ _ c0)).trans c0
  have d1 := (h1.cell (p := ⟨w.heap.size + 1, 0, none⟩) (World.block_lt_of_cell? _ _ c1)).trans c1
  go_wp2_with fail
  refine (Same_anyH _ _ k m true 0 _ (hs.below h1) (hr.below h1) s2 s4).mono ?_
  rintro e w2 ⟨rfl, h2⟩
  go_wp2
  go_ret
  exact ⟨rfl, btr hX (btr h1 h2)⟩
/-- Period, Classes and Colorings of two automata alike answer the same. -/
theorem Classes_two (v : Value) (m : List (List Int)) (C : List Int) (x : Int) (w : World) (h : Rows w v m) (hv : validM m = true) (hC : Hid ((connM m = true ∧ clsM m = C ∧ x = 0) ∨ (connM m = false ∧ C = [] ∧ x = 2))) :
    Calls Tryd.prog 32 #[.agg #[v]] w fun e w' => ∃ A c, e = .returned (.tuple #[.slice A C.length c, .int .i64 x]) ∧ Ints w' (.slice A C.length c) C ∧ Below w.heap.size w w' := by
  rcases hC.out with ⟨h1, h2, rfl⟩ | ⟨h1, rfl, rfl⟩
  · refine (Classes_as v m C w h hv h1 (hid h2)).mono ?_
    rintro e w1 ⟨A, c, rfl, hi, hb⟩
    have hl : C.length = m.length := by rw [← h2]; exact clsM_len m
    rw [hl]
    exact ⟨A, c, rfl, hi, hb⟩
  · refine (Classes_bad v m 2 w h (.inr ⟨hv, h1, rfl⟩)).mono ?_
    rintro e w1 ⟨rfl, hb⟩
    exact ⟨none, 0, rfl, ⟨none, 0, rfl, by unfold big; simp, fun i hi => by simp at hi⟩, hb⟩
theorem Period_two (v : Value) (m : List (List Int)) (p x : Int) (w : World) (h : Rows w v m) (hv : validM m = true) (hC : Hid ((connM m = true ∧ p = perM m ∧ x = 0) ∨ (connM m = false ∧ p = 0 ∧ x = 2))) :
    Calls Tryd.prog 26 #[.agg #[v]] w fun e w' => e = .returned (.tuple #[.int .i64 p, .int .i64 x]) ∧ Below w.heap.size w w' := by
  rcases hC.out with ⟨h1, h2, rfl⟩ | ⟨h1, rfl, rfl⟩
  · exact Period_any v m p 0 w h (.inl ⟨h1, hv, h2, rfl⟩)
  · exact Period_any v m 0 2 w h (.inr ⟨.inr ⟨hv, h1, rfl⟩, rfl⟩)
theorem Connected_two (v : Value) (m : List (List Int)) (b : Bool) (w : World) (h : Rows w v m) (hv : validM m = true) (hC : Hid (connM m = b)) :
    Calls Tryd.prog 31 #[.agg #[v]] w fun e w' => e = .returned (.tuple #[.bool b, .int .i64 0]) ∧ Below w.heap.size w w' := by
  rw [← hC.out]; exact Connected_ok v m w h hv
theorem Colorings_two (v : Value) (m : List (List Int)) (n x : Int) (w : World) (h : Rows w v m) (hv : validM m = true) (hC : Hid (∃ r, colTo m 1152921504606846976 m.length = r ∧ n = (colN r : Nat) ∧ x = colE r)) :
    Calls Tryd.prog 18 #[.agg #[v]] w fun e w' => e = .returned (.tuple #[.int .i64 n, .int .i64 x]) ∧ Below w.heap.size w w' := by
  obtain ⟨r, h1, rfl, rfl⟩ := hC.out
  exact Colorings_ok v m r w h hv (hid h1)
end Go.Proofs.YtlpfglkopnmlnaaDoor
namespace Go.Proofs.YtlpfglkopnmlnaaDoor
open Go.RowKit Go.Shelf
set_option maxRecDepth 100000 in
set_option maxHeartbeats 4000000 in
theorem colorAlike_any (v t u : Value) (m p q : List (List Int)) (w : World) (hT : Tab w) (h : Rows w v m) (ht : Rows w t p) (hu : Rows w u q) :
    Calls Tryd.prog 7 #[.agg #[v], t, u] w fun e w' => e = .returned (.bool true) ∧ Below w.heap.size w w' := by
  have Aw := hid awake5_any
  obtain ⟨A, cap, rfl, hml, -⟩ := id h
  have hX := bal (Below.refl _ w) (.cells #[.slice A m.length cap] 24)
  have hbx := (Boxed.new w 24 (.slice A m.length cap)).cell
  go_enter Tryd.func7, Tryd.ntmps7
  go_wp2_with fail
  have hr := h.below hX
  have hp := ht.below hX
  have hq := hu.below hX
  have hTX := hT.on hX
  generalize w.alloc (.cells #[.slice A m.length cap] 24) = X at *
  have hlt := World.block_lt_of_cell? _ _ hbx
  cases hv : validM m with
  | false =>
    refine (rValid_bool _ m false _ hr hv).mono ?_
    rintro e w1 ⟨rfl, h1⟩
    go_wp2_with fail
    refine (Aw.out _ (hTX.on h1)).mono ?_
    rintro e w2 ⟨rfl, h2⟩
    go_wp2
    go_ret
    exact ⟨rfl, btr hX (btr h1 h2)⟩
  | true =>
    refine (rValid_bool _ m true _ hr hv).mono ?_
    rintro e w1 ⟨rfl, h1⟩
    have c1 := (h1.cell (p := ⟨w.heap.size, 0, none⟩) hlt).trans hbx
    go_wp2_with fail
    cases hpm : permsM m p with
    | false =>
      refine (rPerms_bool _ _ m p false _ (hr.below h1) hv (hp.below h1) hpm).mono ?_
      rintro e w2 ⟨rfl, h2⟩
      have B2 := btr h1 h2
      go_wp2_with fail
      refine (Aw.out _ (hTX.on B2)).mono ?_
      rintro e w3 ⟨rfl, h3⟩
      go_wp2
      go_ret
      exact ⟨rfl, btr hX (btr B2 h3)⟩
    | true =>
      refine (rPerms_bool _ _ m p true _ (hr.below h1) hv (hp.below h1) hpm).mono ?_
      rintro e w2 ⟨rfl, h2⟩
      have B2 := btr h1 h2
      have c2 := (B2.cell (p := ⟨w.heap.size, 0, none⟩) hlt).trans hbx
      go_wp2_with fail
      cases hqm : permsM m q with
      | false =>
        refine (rPerms_bool _ _ m q false _ (hr.below B2) hv (hq.below B2) hqm).mono ?_
        rintro e w3 ⟨rfl, h3⟩
        have B3 := btr B2 h3
        go_wp2_with fail
        refine (Aw.out _ (hTX.on B3)).mono ?_
        rintro e w4 ⟨rfl, h4⟩
        go_wp2
        go_ret
        exact ⟨rfl, btr hX (btr B3 h4)⟩
      | true =>
        refine (rPerms_bool _ _ m q true _ (hr.below B2) hv (hq.below B2) hqm).mono ?_
        rintro e w3 ⟨rfl, h3⟩
        have B3 := btr B2 h3
        have c3 := (B3.cell (p := ⟨w.heap.size, 0, none⟩) hlt).trans hbx
        clear c1 c2 h1 h2 h3 B2
        have kv := colM_valid hv hpm
        have kl := colM_letters hv hpm
        have kn := colM_length m p
        have r1 := colM_permR hv hpm
        have hE1 := hid (show coE m p = 0 from by rw [coE, hv, hpm]; rfl)
        have hV1 := hid (show coV m p = colM m p from by rw [coV, hv, hpm]; simp)
        obtain ⟨K, hK⟩ : ∃ K, colM m p = K := ⟨_, rfl⟩
        rw [hK] at kv kl kn r1 hV1
        have kq : permsM K q = true := by rw [permsM_len kn kl]; exact hqm
        have lv := colM_valid kv kq
        have ln := colM_length K q
        have r2 := colM_permR kv kq
        have hE2 := hid (show coE K q = 0 from by rw [coE, kv, kq]; rfl)
        have hV2 := hid (show coV K q = colM K q from by rw [coV, kv, kq]; simp)
        obtain ⟨L, hL⟩ : ∃ L, colM K q = L := ⟨_, rfl⟩
        rw [hL] at lv ln r2 hV2
        rw [kn] at ln
        have r3 := r1.trans r2
        have sAB := r1.same hv
        have sBC := r2.same kv
        have sAC := r3.same hv
        have al := alike_of hv lv sAC
        have hcol1 := Colored_any (.slice A m.length cap) t m p
        rw [hE1.out, hV1.out, kn] at hcol1
        have hcol2 := fun (vb : Value) => Colored_any vb u K q
        rw [hE2.out, hV2.out, ln] at hcol2
        obtain ⟨cb, hcb⟩ : ∃ b, connM m = b := ⟨_, rfl⟩
        have hcb2 := hid ((connM_alike hv lv al).symm.trans hcb)
        obtain ⟨pd, px, hpA, hpC⟩ : ∃ pd px : Int, Hid ((connM m = true ∧ pd = perM m ∧ px = 0) ∨ (connM m = false ∧ pd = 0 ∧ px = 2)) ∧ Hid ((connM L = true ∧ pd = perM L ∧ px = 0) ∨ (connM L = false ∧ pd = 0 ∧ px = 2)) := by
          cases hb : connM m with
          | true => exact ⟨perM m, 0, hid (.inl ⟨rfl, rfl, rfl⟩), hid (.inl ⟨(connM_alike hv lv al).symm.trans hb, by rw [perM_alike hv lv al hb], rfl⟩)⟩
          | false => exact ⟨0, 2, hid (.inr ⟨rfl, rfl, rfl⟩), hid (.inr ⟨(connM_alike hv lv al).symm.trans hb, rfl, rfl⟩)⟩
        obtain ⟨CL, cx, hcA, hcC⟩ : ∃ (CL : List Int) (cx : Int), Hid ((connM m = true ∧ clsM m = CL ∧ cx = 0) ∨ (connM m = false ∧ CL = [] ∧ cx = 2)) ∧ Hid ((connM L = true ∧ clsM L = CL ∧ cx = 0) ∨ (connM L = false ∧ CL = [] ∧ cx = 2)) := by
          cases hb : connM m with
          | true => exact ⟨clsM m, 0, hid (.inl ⟨rfl, rfl, rfl⟩), hid (.inl ⟨(connM_alike hv lv al).symm.trans hb, (clsM_alike hv lv al hb).symm, rfl⟩)⟩
          | false => exact ⟨[], 2, hid (.inr ⟨rfl, rfl, rfl⟩), hid (.inr ⟨(connM_alike hv lv al).symm.trans hb, rfl, rfl⟩)⟩
        obtain ⟨SS, hsA⟩ : ∃ S, Hid (sinksTo m m.length = S) := ⟨_, hid rfl⟩
        have hsC := hid ((sinksTo_alike hv lv al).symm.trans hsA.out)
        obtain ⟨nn, nx, hnA, hnC⟩ : ∃ nn nx : Int, Hid (∃ r, colTo m 1152921504606846976 m.length = r ∧ nn = (colN r : Nat) ∧ nx = colE r) ∧ Hid (∃ r, colTo L 1152921504606846976 L.length = r ∧ nn = (colN r : Nat) ∧ nx = colE r) :=
          ⟨_, _, hid ⟨_, rfl, rfl, rfl⟩, hid ⟨_, r3.count.symm, rfl, rfl⟩⟩
        have hca := hid hcb
        have sAA := sameM_refl m
        have Hcol1 := hid hcol1
        have Hcol2 := hid hcol2
        have hmm := (valid_parts hv).2.1
        clear hcol1 hcol2 hcb hE1 hE2 hV1 hV2 hK hL r1 r2 r3 al kl
        go_wp2_with fail
        refine (Hcol1.out _ (hr.below B3) (hp.below B3)).mono ?_
        rintro e w4 ⟨rA, rc, rfl, hRK, h4⟩
        have b4 := bal h4 (.cells #[.slice rA m.length rc] 24)
        have q4 := (Boxed.new w4 24 (.slice rA m.length rc)).cell
        have hRK4 : Rows (w4.alloc (.cells #[.slice rA m.length rc] 24)) (.slice rA m.length rc) K := hRK.alloc _
        have B4 := btr B3 b4
        have c4 := (B4.cell (p := ⟨w.heap.size, 0, none⟩) hlt).trans hbx
        clear c3 B3 h4 b4 hRK Hcol1
        go_wp2_with fail
        generalize w4.alloc (.cells #[.slice rA m.length rc] 24) = Y at *
        generalize w4.heap.size = b7 at *
        refine (Hcol2.out _ _ hRK4 (hq.below B4)).mono ?_
        rintro e w5 ⟨sA, sc, rfl, hRL, h5⟩
        have b5 := bal h5 (.cells #[.slice sA m.length sc] 24)
        have q9 := (Boxed.new w5 24 (.slice sA m.length sc)).cell
        have hRL5 : Rows (w5.alloc (.cells #[.slice sA m.length sc] 24)) (.slice sA m.length sc) L := hRL.alloc _
        have hRK5 := hRK4.below b5
        have B5 := btr B4 b5
        have q7 := (b5.cell (p := ⟨b7, 0, none⟩) (World.block_lt_of_cell? _ _ q4)).trans q4
        have c5 := (B5.cell (p := ⟨w.heap.size, 0, none⟩) hlt).trans hbx
        clear c4 q4 hRK4 h5 b5 hRL Hcol2 B4
        go_wp2_with fail
        generalize w5.alloc (.cells #[.slice sA m.length sc] 24) = Z at *
        generalize w5.heap.size = b9 at *
        have hrZ := hr.below B5
        have hTZ := hTX.on B5
        have hl7 := World.block_lt_of_cell? _ _ q7
        have hl9 := World.block_lt_of_cell? _ _ q9
        have hl0 := World.block_lt_of_cell? _ _ c5
        have BZ := btr hX B5
        have N0 := Below.refl Z.heap.size Z
        clear hr hp hq B5 hTX hX hbx
        refine (all_any _ _ m m _ (hrZ.below N0) (hrZ.below N0) hv hv sAA).mono ?_
        rintro e y1 ⟨rfl, j1⟩
        have N1 := btr N0 j1
        have x0 := (N1.cell (p := ⟨w.heap.size, 0, none⟩) hl0).trans c5
        have x7 := (N1.cell (p := ⟨b7, 0, none⟩) hl7).trans q7
        have x9 := (N1.cell (p := ⟨b9, 0, none⟩) hl9).trans q9
        go_wp2_with fail
        refine (all_any _ _ m K _ (hrZ.below N1) (hRK5.below N1) hv kv sAB).mono ?_
        rintro e y2 ⟨rfl, j2⟩
        have N2 := btr N1 j2
        have x0 := (N2.cell (p := ⟨w.heap.size, 0, none⟩) hl0).trans c5
        have x7 := (N2.cell (p := ⟨b7, 0, none⟩) hl7).trans q7
        have x9 := (N2.cell (p := ⟨b9, 0, none⟩) hl9).trans q9
        go_wp2_with fail
        refine (all_any _ _ K L _ (hRK5.below N2) (hRL5.below N2) kv lv sBC).mono ?_
        rintro e y3 ⟨rfl, j3⟩
        have N3 := btr N2 j3
        have x0 := (N3.cell (p := ⟨w.heap.size, 0, none⟩) hl0).trans c5
        have x7 := (N3.cell (p := ⟨b7, 0, none⟩) hl7).trans q7
        have x9 := (N3.cell (p := ⟨b9, 0, none⟩) hl9).trans q9
        go_wp2_with fail
        refine (all_any _ _ m L _ (hrZ.below N3) (hRL5.below N3) hv lv sAC).mono ?_
        rintro e y4 ⟨rfl, j4⟩
        have N4 := btr N3 j4
        have x0 := (N4.cell (p := ⟨w.heap.size, 0, none⟩) hl0).trans c5
        have x7 := (N4.cell (p := ⟨b7, 0, none⟩) hl7).trans q7
        have x9 := (N4.cell (p := ⟨b9, 0, none⟩) hl9).trans q9
        go_wp2_with fail
        refine (Connected_two _ m cb _ (hrZ.below N4) hv hca).mono ?_
        rintro e y5 ⟨rfl, j5⟩
        have N5 := btr N4 j5
        have x0 := (N5.cell (p := ⟨w.heap.size, 0, none⟩) hl0).trans c5
        have x7 := (N5.cell (p := ⟨b7, 0, none⟩) hl7).trans q7
        have x9 := (N5.cell (p := ⟨b9, 0, none⟩) hl9).trans q9
        go_wp2_with fail
        refine (Connected_two _ L cb _ (hRL5.below N5) lv hcb2).mono ?_
        rintro e y6 ⟨rfl, j6⟩
        have N6 := btr N5 j6
        have x0 := (N6.cell (p := ⟨w.heap.size, 0, none⟩) hl0).trans c5
        have x7 := (N6.cell (p := ⟨b7, 0, none⟩) hl7).trans q7
        have x9 := (N6.cell (p := ⟨b9, 0, none⟩) hl9).trans q9
        go_wp2_with fail
        refine (Period_two _ m pd px _ (hrZ.below N6) hv hpA).mono ?_
        rintro e y7 ⟨rfl, j7⟩
        have N7 := btr N6 j7
        have x0 := (N7.cell (p := ⟨w.heap.size, 0, none⟩) hl0).trans c5
        have x7 := (N7.cell (p := ⟨b7, 0, none⟩) hl7).trans q7
        have x9 := (N7.cell (p := ⟨b9, 0, none⟩) hl9).trans q9
        go_wp2_with fail
        refine (Period_two _ L pd px _ (hRL5.below N7) lv hpC).mono ?_
        rintro e y8 ⟨rfl, j8⟩
        have N8 := btr N7 j8
        have x0 := (N8.cell (p := ⟨w.heap.size, 0, none⟩) hl0).trans c5
        have x7 := (N8.cell (p := ⟨b7, 0, none⟩) hl7).trans q7
        have x9 := (N8.cell (p := ⟨b9, 0, none⟩) hl9).trans q9
        go_wp2_with fail
        refine (Classes_two _ m CL cx _ (hrZ.below N8) hv hcA).mono ?_
        rintro e y9 ⟨lA, lc, rfl, iA, j9⟩
        have N9 := btr N8 j9
        have x0 := (N9.cell (p := ⟨w.heap.size, 0, none⟩) hl0).trans c5
        have x7 := (N9.cell (p := ⟨b7, 0, none⟩) hl7).trans q7
        have x9 := (N9.cell (p := ⟨b9, 0, none⟩) hl9).trans q9
        go_wp2_with fail
        refine (Classes_two _ L CL cx _ (hRL5.below N9) lv hcC).mono ?_
        rintro e y10 ⟨mA, mc, rfl, iC, j10⟩
        have N10 := btr N9 j10
        have iA := iA.below j10
        have x0 := (N10.cell (p := ⟨w.heap.size, 0, none⟩) hl0).trans c5
        have x7 := (N10.cell (p := ⟨b7, 0, none⟩) hl7).trans q7
        have x9 := (N10.cell (p := ⟨b9, 0, none⟩) hl9).trans q9
        go_wp2_with fail
        refine (rSame_eq _ _ CL _ iA iC).mono ?_
        rintro e y11 ⟨rfl, j11⟩
        have N11 := btr N10 j11
        have x0 := (N11.cell (p := ⟨w.heap.size, 0, none⟩) hl0).trans c5
        have x7 := (N11.cell (p := ⟨b7, 0, none⟩) hl7).trans q7
        have x9 := (N11.cell (p := ⟨b9, 0, none⟩) hl9).trans q9
        go_wp2_with fail
        refine (Sinks_as _ m SS _ (hTZ.on N11) (hrZ.below N11) hv hsA).mono ?_
        rintro e y12 ⟨sA1, sc1, rfl, tA, j12⟩
        have N12 := btr N11 j12
        have x0 := (N12.cell (p := ⟨w.heap.size, 0, none⟩) hl0).trans c5
        have x7 := (N12.cell (p := ⟨b7, 0, none⟩) hl7).trans q7
        have x9 := (N12.cell (p := ⟨b9, 0, none⟩) hl9).trans q9
        go_wp2_with fail
        refine (Sinks_as _ L SS _ (hTZ.on N12) (hRL5.below N12) lv hsC).mono ?_
        rintro e y13 ⟨sA2, sc2, rfl, tC, j13⟩
        have N13 := btr N12 j13
        have tA := tA.below j13
        have x0 := (N13.cell (p := ⟨w.heap.size, 0, none⟩) hl0).trans c5
        have x7 := (N13.cell (p := ⟨b7, 0, none⟩) hl7).trans q7
        have x9 := (N13.cell (p := ⟨b9, 0, none⟩) hl9).trans q9
        go_wp2_with fail
        refine (rSames_eq _ _ SS _ tA tC).mono ?_
        rintro e y14 ⟨rfl, j14⟩
        have N14 := btr N13 j14
        have x0 := (N14.cell (p := ⟨w.heap.size, 0, none⟩) hl0).trans c5
        have x7 := (N14.cell (p := ⟨b7, 0, none⟩) hl7).trans q7
        have x9 := (N14.cell (p := ⟨b9, 0, none⟩) hl9).trans q9
        go_wp2_with fail
        refine (Colorings_two _ m nn nx _ (hrZ.below N14) hv hnA).mono ?_
        rintro e y15 ⟨rfl, j15⟩
        have N15 := btr N14 j15
        have x0 := (N15.cell (p := ⟨w.heap.size, 0, none⟩) hl0).trans c5
        have x7 := (N15.cell (p := ⟨b7, 0, none⟩) hl7).trans q7
        have x9 := (N15.cell (p := ⟨b9, 0, none⟩) hl9).trans q9
        go_wp2_with fail
        refine (Colorings_two _ L nn nx _ (hRL5.below N15) lv hnC).mono ?_
        rintro e y16 ⟨rfl, j16⟩
        have N16 := btr N15 j16
        have x0 := (N16.cell (p := ⟨w.heap.size, 0, none⟩) hl0).trans c5
        have x7 := (N16.cell (p := ⟨b7, 0, none⟩) hl7).trans q7
        have x9 := (N16.cell (p := ⟨b9, 0, none⟩) hl9).trans q9
        go_wp2_with fail
        refine (Aw.out _ (hTZ.on N16)).mono ?_
        rintro e z1 ⟨rfl, z2⟩
        go_wp2
        go_ret
        exact ⟨rfl, btr BZ (btr N16 z2)⟩
end Go.Proofs.YtlpfglkopnmlnaaDoor
