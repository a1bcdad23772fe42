/-
  Texts that the proof of the law stands on: W, V, O2, Z18, Z32, Z33, Z34, Z35, Z36, Z48, Z42, G4, Y24, Z43, Z49, Z50.
-/
import Derived.Test.YtlpfglkopnmlnaaDoorCbF
import Derived.WalkKit
import Derived.ProofKit
import Derived.OpenShut
import Derived.Deep.DeepHandedRow
import Derived.Deep.DeepWitnessRowRef
import Derived.Lib.LaidTab
import Derived.Lib.LaidIn
import Derived.Lib.ItoaNum
import Derived.WideKeyArgs
import Derived.Test.YtlpfglkopnmlnaaDoorRows
import Derived.Deep.RegionHeld
import Derived.Deep.CutRange
import Derived.Deep.RegionHeld3
set_option linter.unusedVariables false
set_option linter.unusedSimpArgs false
namespace Go.Proofs.YtlpfglkopnmlnaaDoor
open Go.ChangeShapes Go.WideShapes Go.ChangeAt Go.RowKit
theorem own : ownKnob Tryd.prog.godebug = none := by kernel_rfl
noncomputable abbrev N0 : Nat := (World.settled Tryd.prog default).heap.size
theorem gTab : Tryd.prog.globalNamed "math/bits.deBruijn64tab" = some 0 := by kernel_rfl
theorem gTabType : (Tryd.prog.globals[0]?).map (·.type) = some 123 := by kernel_rfl
theorem cellsTab : Tryd.prog.cellsOf 123 = 64 := by kernel_rfl
theorem cellsU8 : Tryd.prog.cellsOf 5 = 1 := by kernel_rfl
section
variable {H : Type} {enc : TypeId × Value → H}
/-- All arguments read as they did. -/
theorem TrodAll_stays {P : Program} (hl : laidOutB P = true) {W W' : World} {sp : Nat → Bool} : ∀ {ts : List TypeId} {vs : List Value} {ds : List (DataW H)} {ps : List MemPlace},
    (∀ t ∈ ts, P.readableRec t = true ∧ t < P.types.size) → DataW.TrodAll enc P W 0 (fun _ => true) true ts vs ds ps → (∀ x ∈ ps, W.sameAt W' x) → (∀ x ∈ ps, sp x.block = true) → DataW.TrodAll enc P W' 0 sp true ts vs ds ps
  | [], vs, ds, ps, _, h, _, _ => by cases vs <;> cases ds <;> simp_all [DataW.TrodAll]
  | t :: ts, vs, ds, ps, ht, h, hs, hsp => by
    obtain ⟨v, vs', d, ds', p, q, rfl, rfl, rfl, h0, r0⟩ := trodAll_cons h
    exact trodAll_cons_mk (WideElems.Trod_stays hl (ht t (by simp)).1 (ht t (by simp)).2 h0 (fun x hx => hs x (List.mem_append_left _ hx)) (fun x hx => hsp x (List.mem_append_left _ hx)))
      (TrodAll_stays hl (fun u hu => ht u (by simp [hu])) r0 (fun x hx => hs x (List.mem_append_right _ hx)) (fun x hx => hsp x (List.mem_append_right _ hx)))
set_option maxRecDepth 100000 in
/-- An automaton that came in. -/
theorem auto_of {W : World} {base : Nat} {v : Value} {d : DataW H} {p : List MemPlace} (hv : Value.okWide Tryd.prog W .any base 24 v) (h : DataW.Trod enc Tryd.prog W 0 (fun _ => true) true 24 v d p)
    (hw : ∀ n ∈ d.weights Tryd.prog 24, n ≤ reachBytes) : ∃ c m, v = .agg #[c] ∧ Rows W c m := by
  obtain ⟨cs, rfl, hs⟩ := okWide_struct Tryd.underlying24 hv
  rw [cells_auto] at hs
  obtain ⟨c, rfl⟩ : ∃ c, cs = #[c] := by
    match cs, hs with
    | ⟨[c]⟩, _ => exact ⟨c, rfl⟩
  obtain ⟨fuel, hf⟩ := h
  obtain ⟨y0, n, hx, _, h0⟩ := trod_struct1 Tryd.underlying24 hf
  have hd : d = .agg [y0.1] := (Prod.mk.inj hx).1
  subst hd
  obtain ⟨m, hm⟩ := rows_of_trod (fuel := n) (c := c) (x := y0) h0 (fun k hk => hw k (by
    rw [DataW.weights, Tryd.underlying24]
    simp only [List.map_cons, List.map_nil, DataW.weightsEach, List.append_nil]
    exact hk))
  exact ⟨c, m, rfl, hm⟩
set_option maxRecDepth 100000 in
/-- A list of numbers that came in. -/
theorem list_of {W : World} {base : Nat} {v : Value} {d : DataW H} {p : List MemPlace} (hv : Value.okWide Tryd.prog W .any base 41 v) (h : DataW.Trod enc Tryd.prog W 0 (fun _ => true) true 41 v d p)
    (hw : ∀ n ∈ d.weights Tryd.prog 41, n ≤ reachBytes) : ∃ l, Ints W v l := by
  obtain ⟨a, len, cap, rfl⟩ := okWide_slice Tryd.underlying41 hv
  obtain ⟨fuel, hf⟩ := h
  exact ints_of_trod hf hw
set_option maxRecDepth 100000 in
/-- A nil list has no room. -/
theorem list_nil_of {W : World} {base : Nat} {v : Value} {d : DataW H} {p : List MemPlace} (hv : Value.okWide Tryd.prog W .any base 41 v) (h : DataW.Trod enc Tryd.prog W 0 (fun _ => true) true 41 v d p) : ∀ A n c, v = .slice A n c → A = none → c = 0 := by
  obtain ⟨a, len, cap, rfl⟩ := okWide_slice Tryd.underlying41 hv
  obtain ⟨fuel, hf⟩ := h
  rintro A n c hA rfl
  simp only [Value.slice.injEq] at hA
  obtain ⟨rfl, rfl, rfl⟩ := hA
  have hf' : DataW.trod enc Tryd.prog W 0 (fun _ => true) true fuel 41 [.slice none len cap] = some (d, p) := hf
  rcases Go.ChangeShapes.open_ints Tryd.underlying41 Tryd.underlying3 cells_int hf' with ⟨hc, _⟩ | ⟨a, _, _, _, hc, _⟩
  · simp only [List.cons.injEq, Value.slice.injEq] at hc
    exact hc.1.2.2
  · simp at hc
theorem weight_of {P : Program} {ts : List TypeId} {ds : List (DataW H)} (h : (DataW.weightsEach P ts ds).all (· ≤ reachBytes) = true) {j : Nat} {t : TypeId} {d : DataW H} (ht : ts[j]? = some t) (hd : ds[j]? = some d) : ∀ n ∈ d.weights P t, n ≤ reachBytes := by
  intro n hn
  have := List.all_eq_true.1 h _ (DataW.weights_mem_each ht hd n hn)
  simpa using this
end
end Go.Proofs.YtlpfglkopnmlnaaDoor
namespace Go.Proofs.YtlpfglkopnmlnaaDoor
open Go.ChangeShapes Go.WideShapes Go.ChangeAt Go.RowKit
noncomputable def laidWorld2 (os : Os) : World :=
  let w0 := World.holding Tryd.prog os ⟨#[], #[], []⟩
  let put (h : Array Obj) (g : Nat) (cs : Array Value) : Array Obj := h.modify g fun
    | .cells _ t frozen => .cells cs t frozen
    | o => o
  { w0 with heap := put w0.heap 0 (Lib.deBruijn64tab.map fun z : Nat => Value.int .u8 z).toArray }
set_option maxRecDepth 1000000 in
theorem laid_met2 (os : Os) (args : Array Value) : laidMet Tryd.prog Rows.colorMakesRow.laid ((laidWorld2 os).forCall (fun _ _ => 0) ⟨#[], args, []⟩).memory :=
  (LaidIn.of_run (l := Rows.colorMakesRow.laid) [0] 8 (by kernel_rfl) (by kernel_rfl) (by kernel_rfl) (by kernel_rfl)).met
/-- The table of the least bit, out of the list. -/
theorem tab_of2 {W : World} (h : laidMetH Tryd.prog Rows.colorMakesRow.laid W) : Tab W := by
  have h1 : laidMet Tryd.prog Rows.colorMakesRow.laid W := h
  have h2 : laidMet Tryd.prog (("math/bits.deBruijn64tab", Lib.tabData .u8 (Lib.deBruijn64tab.map fun x : Nat => (x : Int))) :: Rows.colorMakesRow.laid.drop 1) W := h1
  have h3 := Lib.tabIs_of_head gTab gTabType Tryd.underlying123 Tryd.underlying5 cellsU8 cellsTab h2
  intro j hj
  have h4 := h3.cell gTab j (by rw [List.length_map]; exact hj)
  rw [h4]
  have e : j < Lib.deBruijn64tab.length := hj
  simp [List.getD_eq_getElem?_getD, List.getElem?_eq_getElem e]
end Go.Proofs.YtlpfglkopnmlnaaDoor
namespace Go.Proofs.YtlpfglkopnmlnaaDoor
open Go.RowKit Go.Deep Go.ChangeShapes Go.WideShapes
/-- A slice of slices of ints, where a nil row has no room. -/
def RowsN (w : World) (v : Value) (m : List (List Int)) : Prop :=
  ∃ A cap, v = .slice A m.length cap ∧ m.length ≤ big ∧ ∀ i, i < m.length → ∃ b off Ar c, A = some ⟨b, off, none⟩ ∧ w.cell? ⟨b, off + i, none⟩ = some (.slice Ar (m.getD i []).length c) ∧ Ints w (.slice Ar (m.getD i []).length c) (m.getD i []) ∧ (Ar = none → c = 0)
theorem RowsN.rows {w : World} {v : Value} {m : List (List Int)} (h : RowsN w v m) : Rows w v m := by
  obtain ⟨A, cap, hv, hl, hc⟩ := h
  refine ⟨A, cap, hv, hl, fun i hi => ?_⟩
  obtain ⟨b, off, Ar, c, hA, hcell, hr, _⟩ := hc i hi
  exact ⟨b, off, _, hA, hcell, hr⟩
theorem RowsN.below {w w' : World} {v : Value} {m : List (List Int)} (h : RowsN w v m) (hb : Below w.heap.size w w') : RowsN w' v m := by
  obtain ⟨A, cap, hv, hl, hc⟩ := h
  refine ⟨A, cap, hv, hl, fun i hi => ?_⟩
  obtain ⟨b, off, Ar, c, hA, hcell, hr, hn⟩ := hc i hi
  exact ⟨b, off, Ar, c, hA, (hb.cell (p := ⟨b, off + i, none⟩) (World.block_lt_of_cell? _ _ hcell)).trans hcell, hr.below hb, hn⟩
section
variable {H : Type} {enc : TypeId × Value → H} {W : World} {base : Nat}
theorem rowsN_of_trod {fuel : Nat} {c : Value} {x : DataW H × List MemPlace} (h : DataW.trod enc Tryd.prog W base (fun _ => true) true fuel 22 [c] = some x) (hw : ∀ n ∈ x.1.weights Tryd.prog 22, n ≤ reachBytes) : ∃ m, RowsN W c m := by
  rcases open_int_rows Tryd.underlying22 Tryd.underlying41 Tryd.underlying3 cells_row cells_int h with ⟨hc, _⟩ | ⟨a, len, cap, A, L, C, Z, hc, _, hl, _, rfl, hr⟩
  · obtain rfl : c = .slice none 0 0 := by simpa using hc
    exact ⟨[], none, 0, rfl, by simp, fun i hi => by simp at hi⟩
  · obtain rfl : c = .slice (some a) len cap := by simpa using hc
    have hlen : ((List.range len).map fun r => (Z r).take (L r)).length = len := by simp
    have hout := hw ((len + (cap - len)) * Tryd.prog.bytesOf 41) (by simp [DataW.weights, Tryd.underlying22])
    rw [bytes_row] at hout
    have hrow : ∀ r, r < len → C r ≤ big := by
      intro r hr'
      obtain ⟨_, hLC, _, hz, _, hn, _⟩ := hr r (by omega)
      cases hA : A r with
      | none => rw [hn hA]; exact Nat.zero_le _
      | some a' =>
        have hm : (intRow .i64 (A r) (L r) (Z r) : DataW H) ∈ (List.range len).map fun r => (intRow .i64 (A r) (L r) (Z r) : DataW H) := List.mem_map.2 ⟨r, by simpa using hr', rfl⟩
        have hb := hw ((List.length (lits .i64 ((Z r).take (L r)) : List (DataW H)) + List.length (lits .i64 ((Z r).drop (L r)) : List (DataW H))) * Tryd.prog.bytesOf 3) (by
          rw [DataW.weights, Tryd.underlying22]
          refine List.mem_cons_of_mem _ (List.mem_append_left _ (weightsAll_mem hm _ ?_))
          simp [intRow, hA, DataW.weights, Tryd.underlying41])
        rw [bytes_int] at hb
        simp only [lits, List.length_map, List.length_take, List.length_drop] at hb
        exact reach_big (by omega)
    refine ⟨(List.range len).map fun r => (Z r).take (L r), some a, cap, by rw [hlen], by rw [hlen]; unfold reachBytes at hout; unfold big; omega, fun i hi => ?_⟩
    rw [hlen] at hi
    obtain ⟨hcell, hLC, _, hz, _, hn, hcc⟩ := hr i (by omega)
    have h2 := add_spot hcell
    have h00 := add_spot (hr 0 (by omega)).1
    simp only [Addr.add, if_true, Nat.add_zero] at h00
    have e1 : ((List.range len).map fun r => (Z r).take (L r)).getD i [] = (Z i).take (L i) := by simp [List.getD_eq_getElem?_getD, hi]
    have e2 : ((Z i).take (L i)).length = L i := by simp; omega
    refine ⟨a.block, a.off, A i, C i, by rw [h00], by rw [h2] at hcell; rw [e1, e2]; exact hcell, ?_, hn⟩
    rw [e1, e2]
    exact row_ints hLC hz hn (fun a' ha c hc' => (hcc a' ha).2 c hc') (hrow i hi)
set_option maxRecDepth 100000 in
/-- A list of lists of numbers that came in. -/
theorem lists_of {W : World} {base : Nat} {v : Value} {d : DataW H} {p : List MemPlace} (hv : Value.okWide Tryd.prog W .any base 22 v) (h : DataW.Trod enc Tryd.prog W 0 (fun _ => true) true 22 v d p)
    (hw : ∀ n ∈ d.weights Tryd.prog 22, n ≤ reachBytes) : ∃ l, RowsN W v l := by
  obtain ⟨a, len, cap, rfl⟩ := okWide_slice Tryd.underlying22 hv
  obtain ⟨fuel, hf⟩ := h
  exact rowsN_of_trod hf hw
end
end Go.Proofs.YtlpfglkopnmlnaaDoor
namespace Go.Proofs.YtlpfglkopnmlnaaDoor
open Go.RowKit Go.Shelf
/-- What the chapter's examples answer. -/
def Awake5 : Prop := ∀ w : World, Tab w → Calls Tryd.prog 16 #[] w fun e w' => e = .returned (.bool true) ∧ Below w.heap.size w w'
end Go.Proofs.YtlpfglkopnmlnaaDoor
namespace Go.Proofs.YtlpfglkopnmlnaaDoor
open Go.RowKit Go.Shelf
def m5a : List (List Int) := [[1, 0], [0, 1]]
theorem m5a_valid : validM m5a = true := by decide +kernel
theorem m5a_conn : connM m5a = true := by
  rw [connM_iff m5a (by decide)]
  intro s t hs ht
  rw [← reachL_get m5a_valid hs]
  have h : ∀ s : Fin 2, ∀ t : Fin 2, (reachL m5a s).getD t false = true := by decide +kernel
  exact h ⟨s, hs⟩ ⟨t, ht⟩
theorem m5a_per : perM m5a = 1 := by decide +kernel
theorem m5a_count : colTo m5a 1152921504606846976 m5a.length = some 4 := by decide +kernel
theorem m5a_perms : permsM m5a [[0, 1], [1, 0]] = true := by decide +kernel
theorem m5a_col : colM m5a [[0, 1], [1, 0]] = [[1, 0], [1, 0]] := by decide +kernel
theorem m5a_same : sameOk m5a [[1, 0], [1, 0]] = true ∧ sameE m5a [[1, 0], [1, 0]] = 0 := by decide +kernel
theorem m5a_tried : [[0, 1], [0, 1]] ∈ allNum m5a := by
  refine List.mem_append_left _ (List.mem_map.2 ⟨1, by simp, ?_⟩)
  decide +kernel
theorem m5c_valid : validM [[0, 1], [0, 1]] = true := by decide +kernel
theorem m5c_apart : apartL [[0, 1], [0, 1]] = [] := by decide +kernel
theorem m5c_all : allMerge [[0, 1], [0, 1]] := (apartL_nil m5c_valid).1 m5c_apart
/-- What Road returns where one of the colourings that are tried has a reset word. -/
def RoadYes (m : List (List Int)) (w : World) (e : Ending) (w' : World) : Prop :=
  ∃ (r u : Value) (M : List (List Int)), e = .returned (.tuple #[.agg #[r], u, .int .i64 0]) ∧ PermR m M ∧ validM M = true ∧ allMerge M ∧ Rows w' r M ∧ Ints w' u (resetW M) ∧ isWordM M (resetW M) = true ∧ (imageM M (allM M.length) (resetW M)).length = 1 ∧ (resetW M).length ≤ (m.length * m.length * m.length - m.length) / 6 ∧ Below w.heap.size w w'
theorem resetW_len {M : List (List Int)} (hv : validM M = true) (ha : allMerge M) : (resetW M).length ≤ (M.length * M.length * M.length - M.length) / 6 ∧ (resetW M).length ≤ 40000 := by
  obtain ⟨p1, p2, -⟩ := valid_parts hv
  obtain ⟨h1, h2, h3⟩ := resetW_ok hv ha
  have h4 : M.length * M.length * M.length ≤ 60 * 60 * 60 := Nat.mul_le_mul (Nat.mul_le_mul p2 p2) p2
  exact ⟨h3, by omega⟩
theorem road_yes {m : List (List Int)} {w w' : World} {e : Ending} (hv : validM m = true) (h : RoadIs m w e w') (hM : ∃ M ∈ allNum m, allMerge M) : RoadYes m w e w' := by
  rcases h with ⟨r, u, M, rfl, h1, h2, h3, h4, h5⟩ | ⟨h1, _⟩
  · have hp := allNum_perm hv h1
    have hvM := hp.valid hv
    have k1 := resetW_word hvM h2
    obtain ⟨k2, k3⟩ := resetW_len hvM h2
    refine ⟨r, u, M, rfl, hp, hvM, h2, h3, Ints.of_own h4 (by unfold big; omega), k1, reset_one hvM h2, ?_, h5⟩
    rw [hp.1] at k2
    exact k2
  · obtain ⟨M, hm, ha⟩ := hM
    exact absurd ha (h1 M hm)
theorem road_m5a (v : Value) (w : World) (hT : Tab w) (h : Rows w v m5a) : Calls Tryd.prog 20 #[.agg #[v]] w (RoadYes m5a w) :=
  (Road_ok v m5a w hT h m5a_valid m5a_conn m5a_per).mono fun _ _ hr => road_yes m5a_valid hr ⟨_, m5a_tried, m5c_all⟩
theorem road_mR (v : Value) (w : World) (h : Rows w v mR) : Calls Tryd.prog 20 #[.agg #[v]] w (RoadErr w 4) :=
  Road_err v mR 3 0 4 w h (.inl ⟨mR_conn, mR_valid, by rw [mR_per]; rfl, rfl⟩) (.inr ⟨rfl, by omega, rfl⟩)
theorem lit_mR' (w : World) (k : Nat) (hk : w.heap.size = k) : Rows ((((w.alloc (.cells #[.int .i64 1, .int .i64 1] 3)).alloc (.cells #[.int .i64 2, .int .i64 2] 3)).alloc (.cells #[.int .i64 0, .int .i64 0] 3)).alloc
    (.cells #[.slice (some ⟨k, 0, none⟩) 2 2, .slice (some ⟨k + 1, 0, none⟩) 2 2, .slice (some ⟨k + 1 + 1, 0, none⟩) 2 2] 41)) (.slice (some ⟨k + 1 + 1 + 1, 0, none⟩) 3 3) mR := by subst hk; exact lit_mR w
theorem lit2_rows' (w : World) (a b c d : Int) (k : Nat) (hk : w.heap.size = k) : Rows (((w.alloc (.cells #[.int .i64 a, .int .i64 b] 3)).alloc (.cells #[.int .i64 c, .int .i64 d] 3)).alloc
    (.cells #[.slice (some ⟨k, 0, none⟩) 2 2, .slice (some ⟨k + 1, 0, none⟩) 2 2] 41)) (.slice (some ⟨k + 1 + 1, 0, none⟩) 2 2) [[a, b], [c, d]] := by subst hk; exact lit2_rows w a b c d
set_option maxRecDepth 100000 in
set_option maxHeartbeats 2000000 in
theorem awake5_any : Awake5 := by
  intro w hT
  go_enter Tryd.func16, Tryd.ntmps16
  go_wp2_with fail
  have hR0 := (lit2_rows w 1 0 0 1).alloc (.cells #[.slice (some ⟨w.heap.size + 1 + 1, 0, none⟩) 2 2] 24)
  have hX := bal (bal (bal (bal (Below.refl _ w) (.cells #[.int .i64 1, .int .i64 0] 3)) (.cells #[.int .i64 0, .int .i64 1] 3)) (.cells #[.slice (some ⟨w.heap.size, 0, none⟩) 2 2, .slice (some ⟨w.heap.size + 1, 0, none⟩) 2 2] 41)) (.cells #[.slice (some ⟨w.heap.size + 1 + 1, 0, none⟩) 2 2] 24)
  have hbx := (Boxed.new (((w.alloc (.cells #[.int .i64 1, .int .i64 0] 3)).alloc (.cells #[.int .i64 0, .int .i64 1] 3)).alloc (.cells #[.slice (some ⟨w.heap.size, 0, none⟩) 2 2, .slice (some ⟨w.heap.size + 1, 0, none⟩) 2 2] 41)) 24 (.slice (some ⟨w.heap.size + 1 + 1, 0, none⟩) 2 2)).cell
  simp only [World.size_alloc] at hbx
  have hTX := hT.on hX
  generalize (((w.alloc (.cells #[.int .i64 1, .int .i64 0] 3)).alloc (.cells #[.int .i64 0, .int .i64 1] 3)).alloc (.cells #[.slice (some ⟨w.heap.size, 0, none⟩) 2 2, .slice (some ⟨w.heap.size + 1, 0, none⟩) 2 2] 41)).alloc (.cells #[.slice (some ⟨w.heap.size + 1 + 1, 0, none⟩) 2 2] 24) = X at *
  generalize hva : Value.slice (some ⟨w.heap.size + 1 + 1, 0, none⟩) 2 2 = va at *
  have hlB := World.block_lt_of_cell? _ _ hbx
  generalize w.heap.size + 1 + 1 + 1 = B at *
  have hva2 : ∃ g, va = .slice (some ⟨g, 0, none⟩) 2 2 := ⟨_, hva.symm⟩
  obtain ⟨ga, rfl⟩ := hva2
  clear hva
  have hRa : Rows X (.slice (some ⟨ga, 0, none⟩) 2 2) m5a := hR0
  clear hR0
  refine (Colorings_ok _ m5a (some 4) _ hRa m5a_valid (hid m5a_count)).mono ?_
  rintro e w1 ⟨rfl, h1⟩
  have e1 : colN (some 4) = 4 := rfl
  have e2 : colE (some 4) = 0 := rfl
  rw [e1, e2]
  have c1 := (h1.cell (p := ⟨B, 0, none⟩) hlB).trans hbx
  have hra1 := hRa.below h1
  go_wp2_with fail
  have hP := lit2_rows w1 0 1 1 0
  have hX1 := bal (bal (bal (Below.refl _ w1) (.cells #[.int .i64 0, .int .i64 1] 3)) (.cells #[.int .i64 1, .int .i64 0] 3)) (.cells #[.slice (some ⟨w1.heap.size, 0, none⟩) 2 2, .slice (some ⟨w1.heap.size + 1, 0, none⟩) 2 2] 41)
  have hra2 := hra1.below hX1
  have c2 := (hX1.cell (p := ⟨B, 0, none⟩) (World.block_lt_of_cell? _ _ c1)).trans c1
  generalize ((w1.alloc (.cells #[.int .i64 0, .int .i64 1] 3)).alloc (.cells #[.int .i64 1, .int .i64 0] 3)).alloc (.cells #[.slice (some ⟨w1.heap.size, 0, none⟩) 2 2, .slice (some ⟨w1.heap.size + 1, 0, none⟩) 2 2] 41) = Y at *
  refine (Colored_same _ _ m5a [[0, 1], [1, 0]] Y hra2 hP m5a_valid rfl).mono ?_
  rintro e w2 (⟨-, r, rfl, hRb, h2⟩ | ⟨hf, -⟩)
  · rw [m5a_col] at hRb
    have B2 := btr h1 (btr hX1 h2)
    have c3 := (h2.cell (p := ⟨B, 0, none⟩) (World.block_lt_of_cell? _ _ c2)).trans c2
    have hra3 := hra2.below h2
    obtain ⟨rA, rc, rfl, -⟩ := id hRb
    have hb2 := bal (Below.refl _ w2) (.cells #[.slice rA 2 rc] 24)
    have q2 := (Boxed.new w2 24 (.slice rA 2 rc)).cell
    have c4 := (hb2.cell (p := ⟨B, 0, none⟩) (World.block_lt_of_cell? _ _ c3)).trans c3
    have hra4 := hra3.below hb2
    have hrb4 : Rows (w2.alloc (.cells #[.slice rA 2 rc] 24)) (.slice rA 2 rc) [[1, 0], [1, 0]] := hRb.below hb2
    have B4 := btr B2 hb2
    clear hRb hra3 c3 hb2 B2 h2 hP hX1 c2 hra2 h1 hra1 c1 hRa hbx
    go_wp2_with fail
    generalize w2.alloc (.cells #[.slice rA 2 rc] 24) = Z at *
    generalize w2.heap.size = b4 at *
    have hs4 := Same_any _ _ m5a [[1, 0], [1, 0]] Z hra4 hrb4
    rw [m5a_same.1, m5a_same.2] at hs4
    refine hs4.mono ?_
    rintro e w5 ⟨rfl, h5⟩
    have c5 := (h5.cell (p := ⟨B, 0, none⟩) (World.block_lt_of_cell? _ _ c4)).trans c4
    have q5 := (h5.cell (p := ⟨b4, 0, none⟩) (World.block_lt_of_cell? _ _ q2)).trans q2
    have hra5 := hra4.below h5
    have hrb5 := hrb4.below h5
    have B5 := btr B4 h5
    clear c4 q2 hra4 hrb4 hs4 B4 h5
    go_wp2_with fail
    refine (road_m5a _ w5 (hTX.on B5) hra5).mono ?_
    rintro e w6 ⟨rr, ru, M, rfl, hM1, hM2, hM3, hM4, hM5, hM6, hM7, -, h6⟩
    obtain ⟨M1, M2, rfl, -⟩ := id hM4
    obtain ⟨U1, U2, rfl, -⟩ := id hM5
    have b6 := bal h6 (.cells #[.slice M1 M.length M2] 24)
    have q6 := (Boxed.new w6 24 (.slice M1 M.length M2)).cell
    have q7 := (b6.cell (p := ⟨b4, 0, none⟩) (World.block_lt_of_cell? _ _ q5)).trans q5
    have hrb6 := hrb5.below b6
    have hM8 : Rows (w6.alloc (.cells #[.slice M1 M.length M2] 24)) (.slice M1 M.length M2) M := hM4.alloc _
    have hM9 : Ints (w6.alloc (.cells #[.slice M1 M.length M2] 24)) (.slice U1 (resetW M).length U2) (resetW M) := hM5.alloc _
    have B6 := btr B5 b6
    clear hM4 hM5 h6 b6 hrb5 B5 q5 c5 hra5
    generalize hul : resetW M = ul at *
    generalize hml : M.length = ml at *
    have Hml := hid hml
    clear hml hul
    have hz6 : (w6.alloc (.cells #[.slice M1 ml M2] 24)).heap.size = w6.heap.size + 1 := by simp
    go_wp2_with fail
    generalize w6.alloc (.cells #[.slice M1 ml M2] 24) = Z6 at *
    have hX6 := bal (bal (bal (bal (Below.refl _ Z6) (.cells #[.int .i64 1, .int .i64 1] 3)) (.cells #[.int .i64 2, .int .i64 2] 3)) (.cells #[.int .i64 0, .int .i64 0] 3)) (.cells #[.slice (some ⟨w6.heap.size + 1, 0, none⟩) 2 2, .slice (some ⟨w6.heap.size + 1 + 1, 0, none⟩) 2 2, .slice (some ⟨w6.heap.size + 1 + 1 + 1, 0, none⟩) 2 2] 41)
    have hL6 := lit_mR' Z6 (w6.heap.size + 1) hz6
    generalize w6.heap.size = b6 at *
    refine (road_mR _ _ hL6).mono ?_
    rintro e w7 ⟨rfl, h7⟩
    have b7 := btr hX6 h7
    clear hL6
    have b8 := bal b7 (.cells #[.slice none 0 0] 24)
    have q8 := (b8.cell (p := ⟨b4, 0, none⟩) (World.block_lt_of_cell? _ _ q7)).trans q7
    have q9 := (b8.cell (p := ⟨b6, 0, none⟩) (World.block_lt_of_cell? _ _ q6)).trans q6
    have hrb8 := hrb6.below b8
    have hM10 := hM8.below b8
    have hM11 := hM9.below b8
    have B8 := btr B6 b8
    clear hX6 h7 b7 b8 q7 q6 hrb6 hM8 hM9 B6
    have hz8 : (w7.alloc (.cells #[.slice none 0 0] 24)).heap.size = w7.heap.size + 1 := by simp
    go_wp2_with fail
    generalize w7.alloc (.cells #[.slice none 0 0] 24) = Z8 at *
    have hX8 := bal (bal (bal (Below.refl _ Z8) (.cells #[.int .i64 1, .int .i64 0] 3)) (.cells #[.int .i64 1, .int .i64 0] 3)) (.cells #[.slice (some ⟨w7.heap.size + 1, 0, none⟩) 2 2, .slice (some ⟨w7.heap.size + 1 + 1, 0, none⟩) 2 2] 41)
    have hL8 := lit2_rows' Z8 1 0 1 0 (w7.heap.size + 1) hz8
    refine (rSames_eq _ _ [[1, 0], [1, 0]] _ (hrb8.below hX8) hL8).mono ?_
    rintro e w9 ⟨rfl, h9⟩
    have b9 := btr hX8 h9
    have q10 := (b9.cell (p := ⟨b6, 0, none⟩) (World.block_lt_of_cell? _ _ q9)).trans q9
    have hM12 := hM10.below b9
    have hM13 := hM11.below b9
    have B9 := btr B8 b9
    clear hX8 hL8 h9 b9 q9 hrb8 hM10 hM11 B8 q8
    go_wp2_with fail
    refine (rValid_bool _ M true _ hM12 hM2).mono ?_
    rintro e w10 ⟨rfl, h10⟩
    have q11 := (h10.cell (p := ⟨b6, 0, none⟩) (World.block_lt_of_cell? _ _ q10)).trans q10
    go_wp2_with fail
    refine (rResets_yes _ _ M ul _ (hM12.below h10) (hM13.below h10) hM2 hM6 (by rw [Hml.out]; exact hM7)).mono ?_
    rintro e w11 ⟨rfl, h11⟩
    have B11 := btr B9 (btr h10 h11)
    go_wp2
    go_ret
    exact ⟨rfl, btr hX B11⟩
  · rw [m5a_perms] at hf
    cases hf
end Go.Proofs.YtlpfglkopnmlnaaDoor
namespace Go.Proofs.YtlpfglkopnmlnaaDoor
open Go.RowKit Go.Shelf
/-- Colored of any automaton and lists. -/
def coE (m p : List (List Int)) : Int := if validM m = true then (if permsM m p = true then 0 else 2) else 1
def coV (m p : List (List Int)) : List (List Int) := if validM m = true ∧ permsM m p = true then colM m p else []
theorem rows_nil (w : World) : Rows w (.slice none 0 0) [] := ⟨none, 0, rfl, by unfold big; simp, fun i hi => by simp at hi⟩
theorem Colored_any (v u : Value) (m p : List (List Int)) (w : World) (h : Rows w v m) (hu : Rows w u p) :
    Calls Tryd.prog 10 #[.agg #[v], u] w fun e w' => ∃ r c, e = .returned (.tuple #[.agg #[.slice r (coV m p).length c], .int .i64 (coE m p)]) ∧ Rows w' (.slice r (coV m p).length c) (coV m p) ∧ Below w.heap.size w w' := by
  unfold coE coV
  cases hv : validM m with
  | false =>
    refine (Colored_form v u m p w h hu hv).mono ?_
    rintro e w1 ⟨rfl, hb⟩
    exact ⟨none, 0, rfl, rows_nil _, hb⟩
  | true =>
    by_cases hl : p.length = m.length
    · refine (Colored_same v u m p w h hu hv hl).mono ?_
      rintro e w1 (⟨hp, r, rfl, hr, hb⟩ | ⟨hp, rfl, hb⟩)
      · obtain ⟨A, c, rfl, -⟩ := id hr
        refine ⟨A, c, ?_, ?_, hb⟩
        · simp [hp]
        · simpa [hp] using hr
      · refine ⟨none, 0, ?_, ?_, hb⟩
        · simp [hp]
        · simpa [hp] using rows_nil _
    · have hp : permsM m p = false := by rw [permsM, decide_eq_false hl]; rfl
      refine (Colored_len v u m p w h hu hv hl).mono ?_
      rintro e w1 ⟨rfl, hb⟩
      refine ⟨none, 0, ?_, ?_, hb⟩
      · simp [hp]
      · simpa [hp] using rows_nil _
theorem Same_anyH (v u : Value) (m k : List (List Int)) (b : Bool) (x : Int) (w : World) (h : Rows w v m) (hu : Rows w u k) (hb : Hid (sameOk m k = b)) (hx : Hid (sameE m k = x)) :
    Calls Tryd.prog 11 #[.agg #[v], .agg #[u]] w fun e w' => e = .returned (.tuple #[.bool b, .int .i64 x]) ∧ Below w.heap.size w w' := by
  rw [← hb.out, ← hx.out]; exact Same_any v u m k w h hu
end Go.Proofs.YtlpfglkopnmlnaaDoor
namespace Go.Proofs.YtlpfglkopnmlnaaDoor
open Go.RowKit Go.Shelf
theorem held_both {w1 w' : World} {p q : Addr} {a b : Value} (h1 : w1.cell? p = some a) (h2 : w1.cell? q = some b) (hb : Below w1.heap.size w1 w') : Below w1.heap.size w1 w' ∧ w'.cell? p = some a ∧ w'.cell? q = some b :=
  ⟨hb, (hb.cell (World.block_lt_of_cell? _ _ h1)).trans h1, (hb.cell (World.block_lt_of_cell? _ _ h2)).trans h2⟩
/-- A colouring of a strongly connected automaton. -/
theorem col_per {m p : List (List Int)} (hv : validM m = true) (hp : permsM m p = true) (hc : connM m = true) : validM (colM m p) = true ∧ connM (colM m p) = true ∧ perM (colM m p) = perM m ∧ letters (colM m p) = letters m := by
  have h1 := colM_valid hv hp
  have h2 := alike_of hv h1 (colM_same hv hp)
  exact ⟨h1, (connM_alike hv h1 h2).symm.trans hc, (perM_alike hv h1 h2 hc).symm, colM_letters hv hp⟩
theorem word_lets {m k : List (List Int)} (h : letters k = letters m) (u : List Int) : isWordM k u = isWordM m u := by unfold isWordM; rw [h]
theorem no_merge {m : List (List Int)} (hv : validM m = true) (hc : connM m = true) (hp : 1 < perM m) : ¬ allMerge m := fun ha => by
  have h1 := per_image hv hc (resetW_word hv ha)
  rw [reset_one hv ha] at h1
  omega
set_option maxRecDepth 100000 in
set_option maxHeartbeats 4000000 in
theorem colorPeriods_any (v t u : Value) (m p : List (List Int)) (ul : List Int) (w : World) (hT : Tab w) (h : Rows w v m) (ht : Rows w t p) (hu : Ints w u ul) :
    Calls Tryd.prog 6 #[.agg #[v], t, u] w fun e w' => e = .returned (.bool true) ∧ Below w.heap.size w w' := by
  have Aw := hid awake5_any
  obtain ⟨A, cap, rfl, hml, -⟩ := id h
  have hX := bal (Below.refl _ w) (.cells #[.slice A m.length cap] 24)
  have hbx := (Boxed.new w 24 (.slice A m.length cap)).cell
  go_enter Tryd.func6, Tryd.ntmps6
  go_wp2_with fail
  have hr := h.below hX
  have hp := ht.below hX
  have huX := hu.below hX
  have hTX := hT.on hX
  generalize w.alloc (.cells #[.slice A m.length cap] 24) = X at *
  have hlt := World.block_lt_of_cell? _ _ hbx
  cases hv : validM m with
  | false =>
    refine (rValid_bool _ m false _ hr hv).mono ?_
    rintro e w1 ⟨rfl, h1⟩
    go_wp2_with fail
    refine (Aw.out _ (hTX.on h1)).mono ?_
    rintro e w2 ⟨rfl, h2⟩
    go_wp2
    go_ret
    exact ⟨rfl, btr hX (btr h1 h2)⟩
  | true =>
    refine (rValid_bool _ m true _ hr hv).mono ?_
    rintro e w1 ⟨rfl, h1⟩
    have c1 := (h1.cell (p := ⟨w.heap.size, 0, none⟩) hlt).trans hbx
    go_wp2_with fail
    cases hpm : permsM m p with
    | false =>
      refine (rPerms_bool _ _ m p false _ (hr.below h1) hv (hp.below h1) hpm).mono ?_
      rintro e w2 ⟨rfl, h2⟩
      have B2 := btr h1 h2
      go_wp2_with fail
      refine (Aw.out _ (hTX.on B2)).mono ?_
      rintro e w3 ⟨rfl, h3⟩
      go_wp2
      go_ret
      exact ⟨rfl, btr hX (btr B2 h3)⟩
    | true =>
      refine (rPerms_bool _ _ m p true _ (hr.below h1) hv (hp.below h1) hpm).mono ?_
      rintro e w2 ⟨rfl, h2⟩
      have B2 := btr h1 h2
      have c2 := (B2.cell (p := ⟨w.heap.size, 0, none⟩) hlt).trans hbx
      go_wp2_with fail
      cases hw : isWordM m ul with
      | false =>
        refine (rWord_bool _ _ m ul false _ (hr.below B2) hv (huX.below B2) hw).mono ?_
        rintro e w3 ⟨rfl, h3⟩
        have B3 := btr B2 h3
        go_wp2_with fail
        refine (Aw.out _ (hTX.on B3)).mono ?_
        rintro e w4 ⟨rfl, h4⟩
        go_wp2
        go_ret
        exact ⟨rfl, btr hX (btr B3 h4)⟩
      | true =>
        refine (rWord_bool _ _ m ul true _ (hr.below B2) hv (huX.below B2) hw).mono ?_
        rintro e w3 ⟨rfl, h3⟩
        have B3 := btr B2 h3
        have c3 := (B3.cell (p := ⟨w.heap.size, 0, none⟩) hlt).trans hbx
        clear c1 c2 h1 h2 h3 B2
        go_wp2_with fail
        cases hc : connM m with
        | false =>
          refine (Period_any _ m 0 2 _ (hr.below B3) (.inr ⟨.inr ⟨hv, hc, rfl⟩, rfl⟩)).mono ?_
          rintro e w4 ⟨rfl, h4⟩
          have B4 := btr B3 h4
          go_wp2_with fail
          refine (Aw.out _ (hTX.on B4)).mono ?_
          rintro e w5 ⟨rfl, h5⟩
          go_wp2
          go_ret
          exact ⟨rfl, btr hX (btr B4 h5)⟩
        | true =>
          obtain ⟨d, hd⟩ : ∃ d, perM m = d := ⟨_, rfl⟩
          obtain ⟨k1, k2, k3, k4⟩ := col_per hv hpm hc
          have hd1 : 1 ≤ d := by rw [← hd]; exact perM_pos hv hc
          have hwk : isWordM (colM m p) ul = true := by rw [word_lets k4]; exact hw
          have hpi := per_image k1 k2 hwk
          have hno := hid (fun (h : 1 < d) => no_merge k1 k2 (by rw [k3, hd]; exact h))
          have hkl := colM_length m p
          rw [k3, hd] at hpi
          have hE := hid (show coE m p = 0 from by rw [coE, hv, hpm]; rfl)
          have hV := hid (show coV m p = colM m p from by rw [coV, hv, hpm]; simp)
          obtain ⟨K, hK⟩ : ∃ K, colM m p = K := ⟨_, rfl⟩
          rw [hK] at k1 k2 k3 k4 hwk hpi hno hkl hV
          rw [hkl] at hpi
          have hset := allM_set K
          rw [hkl] at hset
          obtain ⟨AL, HAL⟩ : ∃ L, Hid (allM m.length = L) := ⟨_, hid rfl⟩
          rw [HAL.out] at hset hpi
          obtain ⟨I, HI⟩ : ∃ L, Hid (imageM K AL ul = L) := ⟨_, hid rfl⟩
          rw [HI.out] at hpi
          have hp1 := (valid_parts hv).2.1
          have Hd := hid hd
          have Hkl := hid hkl
          have Hk3 := hid k3
          have hcol := Colored_any (.slice A m.length cap) t m p
          rw [hE.out, hV.out, Hkl.out] at hcol
          have Hcol := hid hcol
          clear hcol hd hkl hK k3
          refine (Period_any _ m d 0 _ (hr.below B3) (.inl ⟨hc, hv, by rw [Hd.out], rfl⟩)).mono ?_
          rintro e w4 ⟨rfl, h4⟩
          have B4 := btr B3 h4
          have c4 := (B4.cell (p := ⟨w.heap.size, 0, none⟩) hlt).trans hbx
          clear c3 B3 h4
          go_wp2_with fail
          refine (Hcol.out _ (hr.below B4) (hp.below B4)).mono ?_
          rintro e w5 ⟨rA, rc, rfl, hRK, h5⟩
          have b5 := bal h5 (.cells #[.slice rA m.length rc] 24)
          have q5 := (Boxed.new w5 24 (.slice rA m.length rc)).cell
          have hRK5 : Rows (w5.alloc (.cells #[.slice rA m.length rc] 24)) (.slice rA m.length rc) K := hRK.alloc _
          have B5 := btr B4 b5
          have c5 := (B5.cell (p := ⟨w.heap.size, 0, none⟩) hlt).trans hbx
          clear c4 B4 h5 b5 hRK Hcol
          go_upto_region 7 with fail
          generalize w5.alloc (.cells #[.slice rA m.length rc] 24) = Y at *
          generalize w5.heap.size = b9 at *
          have hTY := hTX.on B5
          have huY := huX.below B5
          have hlb9 := World.block_lt_of_cell? _ _ q5
          go_cut [11, 12] from 44 to 52 (fun r e wc => e = .int .i64 0 ∧ (∃ A c, r = .slice A I.length c) ∧ Below Y.heap.size Y wc)
          case first =>
            go_region_held (fun w' => Below Y.heap.size Y w' ∧ w'.cell? ⟨w.heap.size, 0, none⟩ = some (.slice A m.length cap) ∧ w'.cell? ⟨b9, 0, none⟩ = some (.slice rA m.length rc)) (exact held_both c5 q5 (by first | exact below_dr Y 1 | assumption)) (first
              | (go_at_call 28; go_must (refine (rAll_as m.length AL _ (by omega) HAL).mono ?_; rintro e y1 ⟨r1, rfl, i1, hy1⟩; have k1 : Below Y.heap.size Y y1 := btr (by first | exact below_dr Y 1 | exact Below.refl _ _) hy1))
              | (go_at_call 27; go_must (refine (Image_as _ _ _ K AL ul I _ (hTY.on k1) (hRK5.below k1) i1 (huY.below k1) (by assumption) hset hwk HI).mono ?_; rintro e y2 ⟨r2, rfl, i2, hy2⟩; have k2 : Below Y.heap.size Y y2 := btr k1 hy2; obtain ⟨A2, q2, rfl, _⟩ := id i2)))
            all_goals (go_wp2_with fail; go_meet; exact ⟨rfl, ⟨_, _, rfl⟩, k2⟩)
          case rest =>
            obtain ⟨rfl, ⟨A11, q11, rfl⟩, C0⟩ := hcut
            have d9 := (C0.cell (p := ⟨b9, 0, none⟩) hlb9).trans q5
            have hRKc := hRK5.below C0
            have BC := btr B5 C0
            have hTc := hTX.on BC
            have hd0 : decide (I.length < d) = false := decide_eq_false (by omega)
            have hd00 : decide ((I.length : Int) < (d : Int)) = false := decide_eq_false (by omega)
            clear c5 q5 hRK5 B5 C0 HAL HI
            by_cases hd2 : d = 1
            · subst hd2
              go_wp2_with fail
              refine (Aw.out _ hTc).mono ?_
              rintro e w6 ⟨rfl, h6⟩
              go_wp2
              go_ret
              exact ⟨rfl, btr hX (btr BC h6)⟩
            · have hd3 : ((d : Int) == 1) = false := by simp; omega
              have hnm := hno.out (by omega)
              have hd4 : (d == 1) = false := by simp; omega
              go_wp2_with fail
              refine (Reset_none _ K _ hRKc (by assumption) hnm).mono ?_
              rintro e w6 ⟨rfl, h6⟩
              have d10 := (h6.cell (p := ⟨b9, 0, none⟩) (World.block_lt_of_cell? _ _ d9)).trans d9
              go_wp2_with fail
              refine (Road_err _ K d 0 4 _ (hRKc.below h6) (.inl ⟨by assumption, by assumption, by rw [Hk3.out, Hd.out], rfl⟩) (.inr ⟨rfl, by omega, rfl⟩)).mono ?_
              rintro e w7 ⟨rfl, h7⟩
              have B7 := btr BC (btr h6 h7)
              go_wp2_with fail
              refine (Aw.out _ (hTX.on B7)).mono ?_
              rintro e w8 ⟨rfl, h8⟩
              go_wp2
              go_ret
              exact ⟨rfl, btr hX (btr B7 h8)⟩
end Go.Proofs.YtlpfglkopnmlnaaDoor
namespace Go.Proofs.YtlpfglkopnmlnaaDoor
open Go.RowKit Go.Shelf
theorem permsM_len {m k : List (List Int)} (h1 : k.length = m.length) (h2 : letters k = letters m) (p : List (List Int)) : permsM k p = permsM m p := by unfold permsM; rw [h1, h2]
theorem PermR.trans {m k l : List (List Int)} (h : PermR m k) (h2 : PermR k l) : PermR m l :=
  ⟨h2.1.trans h.1, fun s hs => (h2.2 s (by have := h.1; omega)).trans (h.2 s hs)⟩
theorem colM_permR {m p : List (List Int)} (hv : validM m = true) (hp : permsM m p = true) : PermR m (colM m p) :=
  ⟨colM_length m p, fun s hs => by rw [colM_get m p s hs]; exact colRow_perm hv hp hs⟩
theorem PermR.count {m k : List (List Int)} (h : PermR m k) : colTo m 1152921504606846976 m.length = colTo k 1152921504606846976 k.length := by
  rw [h.1]
  exact colTo_perm h.1.symm (fun s hs => (h.2 s hs).symm) _ _ (Nat.le_refl _)
set_option maxRecDepth 100000 in
set_option maxHeartbeats 1000000 in
theorem all_any (v u : Value) (m k : List (List Int)) (w : World) (h : Rows w v m) (hu : Rows w u k) (hv : validM m = true) (hk : validM k = true) (hs : sameM m k = true) :
    Calls Tryd.prog 30 #[.agg #[v], .agg #[u]] w fun e w' => e = .returned (.bool true) ∧ Below w.heap.size w w' := by
  obtain ⟨A, cap, rfl, -⟩ := id h
  obtain ⟨Ak, capk, rfl, -⟩ := id hu
  obtain ⟨f0, f1⟩ := two_alloc w (.cells #[.slice A m.length cap] 24) (.cells #[.slice Ak k.length capk] 24)
  have hX := bal (bal (Below.refl _ w) (.cells #[.slice A m.length cap] 24)) (.cells #[.slice Ak k.length capk] 24)
  have Hx := hid hX
  have s1 := hid (show sameOk m k = true by rw [sameOk, hv, hk, hs]; rfl)
  have s2 := hid (show sameOk k m = true by rw [sameOk, hv, hk, sameM_symm hs]; rfl)
  have s3 := hid (show sameE m k = 0 by rw [sameE, hv, hk]; rfl)
  have s4 := hid (show sameE k m = 0 by rw [sameE, hv, hk]; rfl)
  go_enter Tryd.func30, Tryd.ntmps30
  go_upto_region 1 with fail
  generalize hWX : (w.alloc (.cells #[.slice A m.length cap] 24)).alloc (.cells #[.slice Ak k.length capk] 24) = X at *
  clear hX hWX
  have hX := Hx.out
  have c0 := cell_of_one f0
  have c1 := cell_of_one f1
  have hr := h.below hX
  have hs := hu.below hX
  clear f0 f1
  go_wp2_with fail
  refine (Same_anyH _ _ m k true 0 X hr hs s1 s3).mono ?_
  rintro e w1 ⟨rfl, h1⟩
  have d0 := (h1.cell (p := ⟨w.heap.size, 0, none⟩) (World.block_lt_of_cell? _ _ c0)).trans c0
  have d1 := (h1.cell (p := ⟨w.heap.size + 1, 0, none⟩) (World.block_lt_of_cell? _ _ c1)).trans c1
  go_wp2_with fail
  refine (Same_anyH _ _ k m true 0 _ (hs.below h1) (hr.below h1) s2 s4).mono ?_
  rintro e w2 ⟨rfl, h2⟩
  go_wp2
  go_ret
  exact ⟨rfl, btr hX (btr h1 h2)⟩
/-- Period, Classes and Colorings of two automata alike answer the same. -/
theorem Classes_two (v : Value) (m : List (List Int)) (C : List Int) (x : Int) (w : World) (h : Rows w v m) (hv : validM m = true) (hC : Hid ((connM m = true ∧ clsM m = C ∧ x = 0) ∨ (connM m = false ∧ C = [] ∧ x = 2))) :
    Calls Tryd.prog 32 #[.agg #[v]] w fun e w' => ∃ A c, e = .returned (.tuple #[.slice A C.length c, .int .i64 x]) ∧ Ints w' (.slice A C.length c) C ∧ Below w.heap.size w w' := by
  rcases hC.out with ⟨h1, h2, rfl⟩ | ⟨h1, rfl, rfl⟩
  · refine (Classes_as v m C w h hv h1 (hid h2)).mono ?_
    rintro e w1 ⟨A, c, rfl, hi, hb⟩
    have hl : C.length = m.length := by rw [← h2]; exact clsM_len m
    rw [hl]
    exact ⟨A, c, rfl, hi, hb⟩
  · refine (Classes_bad v m 2 w h (.inr ⟨hv, h1, rfl⟩)).mono ?_
    rintro e w1 ⟨rfl, hb⟩
    exact ⟨none, 0, rfl, ⟨none, 0, rfl, by unfold big; simp, fun i hi => by simp at hi⟩, hb⟩
theorem Period_two (v : Value) (m : List (List Int)) (p x : Int) (w : World) (h : Rows w v m) (hv : validM m = true) (hC : Hid ((connM m = true ∧ p = perM m ∧ x = 0) ∨ (connM m = false ∧ p = 0 ∧ x = 2))) :
    Calls Tryd.prog 26 #[.agg #[v]] w fun e w' => e = .returned (.tuple #[.int .i64 p, .int .i64 x]) ∧ Below w.heap.size w w' := by
  rcases hC.out with ⟨h1, h2, rfl⟩ | ⟨h1, rfl, rfl⟩
  · exact Period_any v m p 0 w h (.inl ⟨h1, hv, h2, rfl⟩)
  · exact Period_any v m 0 2 w h (.inr ⟨.inr ⟨hv, h1, rfl⟩, rfl⟩)
theorem Connected_two (v : Value) (m : List (List Int)) (b : Bool) (w : World) (h : Rows w v m) (hv : validM m = true) (hC : Hid (connM m = b)) :
    Calls Tryd.prog 31 #[.agg #[v]] w fun e w' => e = .returned (.tuple #[.bool b, .int .i64 0]) ∧ Below w.heap.size w w' := by
  rw [← hC.out]; exact Connected_ok v m w h hv
theorem Colorings_two (v : Value) (m : List (List Int)) (n x : Int) (w : World) (h : Rows w v m) (hv : validM m = true) (hC : Hid (∃ r, colTo m 1152921504606846976 m.length = r ∧ n = (colN r : Nat) ∧ x = colE r)) :
    Calls Tryd.prog 18 #[.agg #[v]] w fun e w' => e = .returned (.tuple #[.int .i64 n, .int .i64 x]) ∧ Below w.heap.size w w' := by
  obtain ⟨r, h1, rfl, rfl⟩ := hC.out
  exact Colorings_ok v m r w h hv (hid h1)
end Go.Proofs.YtlpfglkopnmlnaaDoor
namespace Go.Proofs.YtlpfglkopnmlnaaDoor
open Go.RowKit Go.Shelf
set_option maxRecDepth 100000 in
set_option maxHeartbeats 4000000 in
theorem colorAlike_any (v t u : Value) (m p q : List (List Int)) (w : World) (hT : Tab w) (h : Rows w v m) (ht : Rows w t p) (hu : Rows w u q) :
    Calls Tryd.prog 7 #[.agg #[v], t, u] w fun e w' => e = .returned (.bool true) ∧ Below w.heap.size w w' := by
  have Aw := hid awake5_any
  obtain ⟨A, cap, rfl, hml, -⟩ := id h
  have hX := bal (Below.refl _ w) (.cells #[.slice A m.length cap] 24)
  have hbx := (Boxed.new w 24 (.slice A m.length cap)).cell
  go_enter Tryd.func7, Tryd.ntmps7
  go_wp2_with fail
  have hr := h.below hX
  have hp := ht.below hX
  have hq := hu.below hX
  have hTX := hT.on hX
  generalize w.alloc (.cells #[.slice A m.length cap] 24) = X at *
  have hlt := World.block_lt_of_cell? _ _ hbx
  cases hv : validM m with
  | false =>
    refine (rValid_bool _ m false _ hr hv).mono ?_
    rintro e w1 ⟨rfl, h1⟩
    go_wp2_with fail
    refine (Aw.out _ (hTX.on h1)).mono ?_
    rintro e w2 ⟨rfl, h2⟩
    go_wp2
    go_ret
    exact ⟨rfl, btr hX (btr h1 h2)⟩
  | true =>
    refine (rValid_bool _ m true _ hr hv).mono ?_
    rintro e w1 ⟨rfl, h1⟩
    have c1 := (h1.cell (p := ⟨w.heap.size, 0, none⟩) hlt).trans hbx
    go_wp2_with fail
    cases hpm : permsM m p with
    | false =>
      refine (rPerms_bool _ _ m p false _ (hr.below h1) hv (hp.below h1) hpm).mono ?_
      rintro e w2 ⟨rfl, h2⟩
      have B2 := btr h1 h2
      go_wp2_with fail
      refine (Aw.out _ (hTX.on B2)).mono ?_
      rintro e w3 ⟨rfl, h3⟩
      go_wp2
      go_ret
      exact ⟨rfl, btr hX (btr B2 h3)⟩
    | true =>
      refine (rPerms_bool _ _ m p true _ (hr.below h1) hv (hp.below h1) hpm).mono ?_
      rintro e w2 ⟨rfl, h2⟩
      have B2 := btr h1 h2
      have c2 := (B2.cell (p := ⟨w.heap.size, 0, none⟩) hlt).trans hbx
      go_wp2_with fail
      cases hqm : permsM m q with
      | false =>
        refine (rPerms_bool _ _ m q false _ (hr.below B2) hv (hq.below B2) hqm).mono ?_
        rintro e w3 ⟨rfl, h3⟩
        have B3 := btr B2 h3
        go_wp2_with fail
        refine (Aw.out _ (hTX.on B3)).mono ?_
        rintro e w4 ⟨rfl, h4⟩
        go_wp2
        go_ret
        exact ⟨rfl, btr hX (btr B3 h4)⟩
      | true =>
        refine (rPerms_bool _ _ m q true _ (hr.below B2) hv (hq.below B2) hqm).mono ?_
        rintro e w3 ⟨rfl, h3⟩
        have B3 := btr B2 h3
        have c3 := (B3.cell (p := ⟨w.heap.size, 0, none⟩) hlt).trans hbx
        clear c1 c2 h1 h2 h3 B2
        have kv := colM_valid hv hpm
        have kl := colM_letters hv hpm
        have kn := colM_length m p
        have r1 := colM_permR hv hpm
        have hE1 := hid (show coE m p = 0 from by rw [coE, hv, hpm]; rfl)
        have hV1 := hid (show coV m p = colM m p from by rw [coV, hv, hpm]; simp)
        obtain ⟨K, hK⟩ : ∃ K, colM m p = K := ⟨_, rfl⟩
        rw [hK] at kv kl kn r1 hV1
        have kq : permsM K q = true := by rw [permsM_len kn kl]; exact hqm
        have lv := colM_valid kv kq
        have ln := colM_length K q
        have r2 := colM_permR kv kq
        have hE2 := hid (show coE K q = 0 from by rw [coE, kv, kq]; rfl)
        have hV2 := hid (show coV K q = colM K q from by rw [coV, kv, kq]; simp)
        obtain ⟨L, hL⟩ : ∃ L, colM K q = L := ⟨_, rfl⟩
        rw [hL] at lv ln r2 hV2
        rw [kn] at ln
        have r3 := r1.trans r2
        have sAB := r1.same hv
        have sBC := r2.same kv
        have sAC := r3.same hv
        have al := alike_of hv lv sAC
        have hcol1 := Colored_any (.slice A m.length cap) t m p
        rw [hE1.out, hV1.out, kn] at hcol1
        have hcol2 := fun (vb : Value) => Colored_any vb u K q
        rw [hE2.out, hV2.out, ln] at hcol2
        obtain ⟨cb, hcb⟩ : ∃ b, connM m = b := ⟨_, rfl⟩
        have hcb2 := hid ((connM_alike hv lv al).symm.trans hcb)
        obtain ⟨pd, px, hpA, hpC⟩ : ∃ pd px : Int, Hid ((connM m = true ∧ pd = perM m ∧ px = 0) ∨ (connM m = false ∧ pd = 0 ∧ px = 2)) ∧ Hid ((connM L = true ∧ pd = perM L ∧ px = 0) ∨ (connM L = false ∧ pd = 0 ∧ px = 2)) := by
          cases hb : connM m with
          | true => exact ⟨perM m, 0, hid (.inl ⟨rfl, rfl, rfl⟩), hid (.inl ⟨(connM_alike hv lv al).symm.trans hb, by rw [perM_alike hv lv al hb], rfl⟩)⟩
          | false => exact ⟨0, 2, hid (.inr ⟨rfl, rfl, rfl⟩), hid (.inr ⟨(connM_alike hv lv al).symm.trans hb, rfl, rfl⟩)⟩
        obtain ⟨CL, cx, hcA, hcC⟩ : ∃ (CL : List Int) (cx : Int), Hid ((connM m = true ∧ clsM m = CL ∧ cx = 0) ∨ (connM m = false ∧ CL = [] ∧ cx = 2)) ∧ Hid ((connM L = true ∧ clsM L = CL ∧ cx = 0) ∨ (connM L = false ∧ CL = [] ∧ cx = 2)) := by
          cases hb : connM m with
          | true => exact ⟨clsM m, 0, hid (.inl ⟨rfl, rfl, rfl⟩), hid (.inl ⟨(connM_alike hv lv al).symm.trans hb, (clsM_alike hv lv al hb).symm, rfl⟩)⟩
          | false => exact ⟨[], 2, hid (.inr ⟨rfl, rfl, rfl⟩), hid (.inr ⟨(connM_alike hv lv al).symm.trans hb, rfl, rfl⟩)⟩
        obtain ⟨SS, hsA⟩ : ∃ S, Hid (sinksTo m m.length = S) := ⟨_, hid rfl⟩
        have hsC := hid ((sinksTo_alike hv lv al).symm.trans hsA.out)
        obtain ⟨nn, nx, hnA, hnC⟩ : ∃ nn nx : Int, Hid (∃ r, colTo m 1152921504606846976 m.length = r ∧ nn = (colN r : Nat) ∧ nx = colE r) ∧ Hid (∃ r, colTo L 1152921504606846976 L.length = r ∧ nn = (colN r : Nat) ∧ nx = colE r) :=
          ⟨_, _, hid ⟨_, rfl, rfl, rfl⟩, hid ⟨_, r3.count.symm, rfl, rfl⟩⟩
        have hca := hid hcb
        have sAA := sameM_refl m
        have Hcol1 := hid hcol1
        have Hcol2 := hid hcol2
        have hmm := (valid_parts hv).2.1
        clear hcol1 hcol2 hcb hE1 hE2 hV1 hV2 hK hL r1 r2 r3 al kl
        go_wp2_with fail
        refine (Hcol1.out _ (hr.below B3) (hp.below B3)).mono ?_
        rintro e w4 ⟨rA, rc, rfl, hRK, h4⟩
        have b4 := bal h4 (.cells #[.slice rA m.length rc] 24)
        have q4 := (Boxed.new w4 24 (.slice rA m.length rc)).cell
        have hRK4 : Rows (w4.alloc (.cells #[.slice rA m.length rc] 24)) (.slice rA m.length rc) K := hRK.alloc _
        have B4 := btr B3 b4
        have c4 := (B4.cell (p := ⟨w.heap.size, 0, none⟩) hlt).trans hbx
        clear c3 B3 h4 b4 hRK Hcol1
        go_wp2_with fail
        generalize w4.alloc (.cells #[.slice rA m.length rc] 24) = Y at *
        generalize w4.heap.size = b7 at *
        refine (Hcol2.out _ _ hRK4 (hq.below B4)).mono ?_
        rintro e w5 ⟨sA, sc, rfl, hRL, h5⟩
        have b5 := bal h5 (.cells #[.slice sA m.length sc] 24)
        have q9 := (Boxed.new w5 24 (.slice sA m.length sc)).cell
        have hRL5 : Rows (w5.alloc (.cells #[.slice sA m.length sc] 24)) (.slice sA m.length sc) L := hRL.alloc _
        have hRK5 := hRK4.below b5
        have B5 := btr B4 b5
        have q7 := (b5.cell (p := ⟨b7, 0, none⟩) (World.block_lt_of_cell? _ _ q4)).trans q4
        have c5 := (B5.cell (p := ⟨w.heap.size, 0, none⟩) hlt).trans hbx
        clear c4 q4 hRK4 h5 b5 hRL Hcol2 B4
        go_wp2_with fail
        generalize w5.alloc (.cells #[.slice sA m.length sc] 24) = Z at *
        generalize w5.heap.size = b9 at *
        have hrZ := hr.below B5
        have hTZ := hTX.on B5
        have hl7 := World.block_lt_of_cell? _ _ q7
        have hl9 := World.block_lt_of_cell? _ _ q9
        have hl0 := World.block_lt_of_cell? _ _ c5
        have BZ := btr hX B5
        have N0 := Below.refl Z.heap.size Z
        clear hr hp hq B5 hTX hX hbx
        refine (all_any _ _ m m _ (hrZ.below N0) (hrZ.below N0) hv hv sAA).mono ?_
        rintro e y1 ⟨rfl, j1⟩
        have N1 := btr N0 j1
        have x0 := (N1.cell (p := ⟨w.heap.size, 0, none⟩) hl0).trans c5
        have x7 := (N1.cell (p := ⟨b7, 0, none⟩) hl7).trans q7
        have x9 := (N1.cell (p := ⟨b9, 0, none⟩) hl9).trans q9
        go_wp2_with fail
        refine (all_any _ _ m K _ (hrZ.below N1) (hRK5.below N1) hv kv sAB).mono ?_
        rintro e y2 ⟨rfl, j2⟩
        have N2 := btr N1 j2
        have x0 := (N2.cell (p := ⟨w.heap.size, 0, none⟩) hl0).trans c5
        have x7 := (N2.cell (p := ⟨b7, 0, none⟩) hl7).trans q7
        have x9 := (N2.cell (p := ⟨b9, 0, none⟩) hl9).trans q9
        go_wp2_with fail
        refine (all_any _ _ K L _ (hRK5.below N2) (hRL5.below N2) kv lv sBC).mono ?_
        rintro e y3 ⟨rfl, j3⟩
        have N3 := btr N2 j3
        have x0 := (N3.cell (p := ⟨w.heap.size, 0, none⟩) hl0).trans c5
        have x7 := (N3.cell (p := ⟨b7, 0, none⟩) hl7).trans q7
        have x9 := (N3.cell (p := ⟨b9, 0, none⟩) hl9).trans q9
        go_wp2_with fail
        refine (all_any _ _ m L _ (hrZ.below N3) (hRL5.below N3) hv lv sAC).mono ?_
        rintro e y4 ⟨rfl, j4⟩
        have N4 := btr N3 j4
        have x0 := (N4.cell (p := ⟨w.heap.size, 0, none⟩) hl0).trans c5
        have x7 := (N4.cell (p := ⟨b7, 0, none⟩) hl7).trans q7
        have x9 := (N4.cell (p := ⟨b9, 0, none⟩) hl9).trans q9
        go_wp2_with fail
        refine (Connected_two _ m cb _ (hrZ.below N4) hv hca).mono ?_
        rintro e y5 ⟨rfl, j5⟩
        have N5 := btr N4 j5
        have x0 := (N5.cell (p := ⟨w.heap.size, 0, none⟩) hl0).trans c5
        have x7 := (N5.cell (p := ⟨b7, 0, none⟩) hl7).trans q7
        have x9 := (N5.cell (p := ⟨b9, 0, none⟩) hl9).trans q9
        go_wp2_with fail
        refine (Connected_two _ L cb _ (hRL5.below N5) lv hcb2).mono ?_
        rintro e y6 ⟨rfl, j6⟩
        have N6 := btr N5 j6
        have x0 := (N6.cell (p := ⟨w.heap.size, 0, none⟩) hl0).trans c5
        have x7 := (N6.cell (p := ⟨b7, 0, none⟩) hl7).trans q7
        have x9 := (N6.cell (p := ⟨b9, 0, none⟩) hl9).trans q9
        go_wp2_with fail
        refine (Period_two _ m pd px _ (hrZ.below N6) hv hpA).mono ?_
        rintro e y7 ⟨rfl, j7⟩
        have N7 := btr N6 j7
        have x0 := (N7.cell (p := ⟨w.heap.size, 0, none⟩) hl0).trans c5
        have x7 := (N7.cell (p := ⟨b7, 0, none⟩) hl7).trans q7
        have x9 := (N7.cell (p := ⟨b9, 0, none⟩) hl9).trans q9
        go_wp2_with fail
        refine (Period_two _ L pd px _ (hRL5.below N7) lv hpC).mono ?_
        rintro e y8 ⟨rfl, j8⟩
        have N8 := btr N7 j8
        have x0 := (N8.cell (p := ⟨w.heap.size, 0, none⟩) hl0).trans c5
        have x7 := (N8.cell (p := ⟨b7, 0, none⟩) hl7).trans q7
        have x9 := (N8.cell (p := ⟨b9, 0, none⟩) hl9).trans q9
        go_wp2_with fail
        refine (Classes_two _ m CL cx _ (hrZ.below N8) hv hcA).mono ?_
        rintro e y9 ⟨lA, lc, rfl, iA, j9⟩
        have N9 := btr N8 j9
        have x0 := (N9.cell (p := ⟨w.heap.size, 0, none⟩) hl0).trans c5
        have x7 := (N9.cell (p := ⟨b7, 0, none⟩) hl7).trans q7
        have x9 := (N9.cell (p := ⟨b9, 0, none⟩) hl9).trans q9
        go_wp2_with fail
        refine (Classes_two _ L CL cx _ (hRL5.below N9) lv hcC).mono ?_
        rintro e y10 ⟨mA, mc, rfl, iC, j10⟩
        have N10 := btr N9 j10
        have iA := iA.below j10
        have x0 := (N10.cell (p := ⟨w.heap.size, 0, none⟩) hl0).trans c5
        have x7 := (N10.cell (p := ⟨b7, 0, none⟩) hl7).trans q7
        have x9 := (N10.cell (p := ⟨b9, 0, none⟩) hl9).trans q9
        go_wp2_with fail
        refine (rSame_eq _ _ CL _ iA iC).mono ?_
        rintro e y11 ⟨rfl, j11⟩
        have N11 := btr N10 j11
        have x0 := (N11.cell (p := ⟨w.heap.size, 0, none⟩) hl0).trans c5
        have x7 := (N11.cell (p := ⟨b7, 0, none⟩) hl7).trans q7
        have x9 := (N11.cell (p := ⟨b9, 0, none⟩) hl9).trans q9
        go_wp2_with fail
        refine (Sinks_as _ m SS _ (hTZ.on N11) (hrZ.below N11) hv hsA).mono ?_
        rintro e y12 ⟨sA1, sc1, rfl, tA, j12⟩
        have N12 := btr N11 j12
        have x0 := (N12.cell (p := ⟨w.heap.size, 0, none⟩) hl0).trans c5
        have x7 := (N12.cell (p := ⟨b7, 0, none⟩) hl7).trans q7
        have x9 := (N12.cell (p := ⟨b9, 0, none⟩) hl9).trans q9
        go_wp2_with fail
        refine (Sinks_as _ L SS _ (hTZ.on N12) (hRL5.below N12) lv hsC).mono ?_
        rintro e y13 ⟨sA2, sc2, rfl, tC, j13⟩
        have N13 := btr N12 j13
        have tA := tA.below j13
        have x0 := (N13.cell (p := ⟨w.heap.size, 0, none⟩) hl0).trans c5
        have x7 := (N13.cell (p := ⟨b7, 0, none⟩) hl7).trans q7
        have x9 := (N13.cell (p := ⟨b9, 0, none⟩) hl9).trans q9
        go_wp2_with fail
        refine (rSames_eq _ _ SS _ tA tC).mono ?_
        rintro e y14 ⟨rfl, j14⟩
        have N14 := btr N13 j14
        have x0 := (N14.cell (p := ⟨w.heap.size, 0, none⟩) hl0).trans c5
        have x7 := (N14.cell (p := ⟨b7, 0, none⟩) hl7).trans q7
        have x9 := (N14.cell (p := ⟨b9, 0, none⟩) hl9).trans q9
        go_wp2_with fail
        refine (Colorings_two _ m nn nx _ (hrZ.below N14) hv hnA).mono ?_
        rintro e y15 ⟨rfl, j15⟩
        have N15 := btr N14 j15
        have x0 := (N15.cell (p := ⟨w.heap.size, 0, none⟩) hl0).trans c5
        have x7 := (N15.cell (p := ⟨b7, 0, none⟩) hl7).trans q7
        have x9 := (N15.cell (p := ⟨b9, 0, none⟩) hl9).trans q9
        go_wp2_with fail
        refine (Colorings_two _ L nn nx _ (hRL5.below N15) lv hnC).mono ?_
        rintro e y16 ⟨rfl, j16⟩
        have N16 := btr N15 j16
        have x0 := (N16.cell (p := ⟨w.heap.size, 0, none⟩) hl0).trans c5
        have x7 := (N16.cell (p := ⟨b7, 0, none⟩) hl7).trans q7
        have x9 := (N16.cell (p := ⟨b9, 0, none⟩) hl9).trans q9
        go_wp2_with fail
        refine (Aw.out _ (hTZ.on N16)).mono ?_
        rintro e z1 ⟨rfl, z2⟩
        go_wp2
        go_ret
        exact ⟨rfl, btr BZ (btr N16 z2)⟩
end Go.Proofs.YtlpfglkopnmlnaaDoor
namespace Go.Proofs.YtlpfglkopnmlnaaDoor
open Go.RowKit Go.Shelf
/-- A number that is within one limit is within a greater one. -/
theorem colTo_more {m : List (List Int)} {a b : Nat} (hab : a ≤ b) : ∀ {s c : Nat}, colTo m a s = some c → colTo m b s = some c
  | 0, _, h => h
  | s + 1, c, h => by
    unfold colTo at h ⊢
    cases h1 : colTo m a s with
    | none => rw [h1] at h; cases h
    | some c1 =>
      rw [h1] at h
      rw [colTo_more hab h1]
      by_cases h2 : a / ordN (m.getD s []) m.length < c1
      · simp only [if_pos h2] at h; cases h
      · have h3 : a / ordN (m.getD s []) m.length ≤ b / ordN (m.getD s []) m.length := Nat.div_le_div_right hab
        simp only [if_neg h2] at h
        simp only [if_neg (show ¬ b / ordN (m.getD s []) m.length < c1 by omega)]
        exact h
theorem road_few {m : List (List Int)} (hv : validM m = true) (hc : connM m = true) (hp : perM m = 1) (hno : ∀ M ∈ allNum m, ¬ allMerge M) : colTo m 1000000 m.length = none := by
  cases h : colTo m 1000000 m.length with
  | none => rfl
  | some c =>
    have h1 := (colTo_pos hv (by decide) (Nat.le_refl _) h).2
    obtain ⟨M, a1, a2⟩ := road_tried hv hc hp (colTo_more (by decide) h) h1
    exact absurd a2 (hno M a1)
theorem rMost_as (n k : Nat) (w : World) (hn : n ≤ 60) (hk : Hid ((n * n * n - n) / 6 = k)) :
    Calls Tryd.prog 24 #[.int .i64 n] w fun e w' => e = .returned (.int .i64 (k : Nat)) ∧ w = w' := by
  rw [← hk.out]; exact rMost_any n w hn
set_option maxRecDepth 100000 in
set_option maxHeartbeats 4000000 in
theorem colorRoads_any (v : Value) (m : List (List Int)) (w : World) (hT : Tab w) (h : Rows w v m) :
    Calls Tryd.prog 5 #[.agg #[v]] w fun e w' => e = .returned (.bool true) ∧ Below w.heap.size w w' := by
  have Aw := hid awake5_any
  obtain ⟨A, cap, rfl, hml, -⟩ := id h
  have hX := bal (Below.refl _ w) (.cells #[.slice A m.length cap] 24)
  have hbx := (Boxed.new w 24 (.slice A m.length cap)).cell
  go_enter Tryd.func5, Tryd.ntmps5
  go_wp2_with fail
  have hr := h.below hX
  have hTX := hT.on hX
  generalize w.alloc (.cells #[.slice A m.length cap] 24) = X at *
  have hlt := World.block_lt_of_cell? _ _ hbx
  cases hv : validM m with
  | false =>
    refine (Road_err _ m 0 1 1 _ hr (.inr ⟨.inl ⟨hv, rfl⟩, rfl⟩) (.inl ⟨by decide, rfl⟩)).mono ?_
    rintro e w1 ⟨rfl, h1⟩
    have b1 := bal h1 (.cells #[.slice none 0 0] 24)
    have c1 := (b1.cell (p := ⟨w.heap.size, 0, none⟩) hlt).trans hbx
    go_wp2_with fail
    refine (rValid_bool _ m false _ (hr.below b1) hv).mono ?_
    rintro e w2 ⟨rfl, h2⟩
    have B2 := btr b1 h2
    go_wp2_with fail
    refine (Aw.out _ (hTX.on B2)).mono ?_
    rintro e w3 ⟨rfl, h3⟩
    go_wp2
    go_ret
    exact ⟨rfl, btr hX (btr B2 h3)⟩
  | true =>
    cases hc : connM m with
    | false =>
      refine (Road_err _ m 0 2 2 _ hr (.inr ⟨.inr ⟨hv, hc, rfl⟩, rfl⟩) (.inl ⟨by decide, rfl⟩)).mono ?_
      rintro e w1 ⟨rfl, h1⟩
      have b1 := bal h1 (.cells #[.slice none 0 0] 24)
      have c1 := (b1.cell (p := ⟨w.heap.size, 0, none⟩) hlt).trans hbx
      go_wp2_with fail
      refine (rValid_bool _ m true _ (hr.below b1) hv).mono ?_
      rintro e w2 ⟨rfl, h2⟩
      have B2 := btr b1 h2
      have c2 := (B2.cell (p := ⟨w.heap.size, 0, none⟩) hlt).trans hbx
      go_wp2_with fail
      refine (rConnected_bool _ m false _ (hr.below B2) hv hc).mono ?_
      rintro e w3 ⟨rfl, h3⟩
      have B3 := btr B2 h3
      go_wp2_with fail
      refine (Aw.out _ (hTX.on B3)).mono ?_
      rintro e w4 ⟨rfl, h4⟩
      go_wp2
      go_ret
      exact ⟨rfl, btr hX (btr B3 h4)⟩
    | true =>
      have hpos := perM_pos hv hc
      have hpr := perR_eq hv hc
      by_cases hp1 : perM m = 1
      · rw [hp1] at hpr
        have hmm := (valid_parts hv).2.1
        refine (Road_ok _ m _ hTX hr hv hc hp1).mono ?_
        rintro e w1 (hy | ⟨hno, rfl, h1⟩)
        · obtain ⟨rr, ru, M, rfl, hM1, hM2, hM3, hM4, hM5, hM6, hM7, hM8, h1⟩ := road_yes (e := e) (w' := w1) hv (.inl hy) (by obtain ⟨_, _, M, _, a, b, _⟩ := hy; exact ⟨M, a, b⟩)
          obtain ⟨M1, M2, rfl, -⟩ := id hM4
          obtain ⟨U1, U2, rfl, -⟩ := id hM5
          have hsm := hM1.same hv
          have hMl := hM1.1
          rw [hMl] at hM4 hM7 ⊢
          have b1 := bal h1 (.cells #[.slice M1 m.length M2] 24)
          have q1 := (Boxed.new w1 24 (.slice M1 m.length M2)).cell
          have hMb : Rows (w1.alloc (.cells #[.slice M1 m.length M2] 24)) (.slice M1 m.length M2) M := hM4.alloc _
          have hUb : Ints (w1.alloc (.cells #[.slice M1 m.length M2] 24)) (.slice U1 (resetW M).length U2) (resetW M) := hM5.alloc _
          have c1 := (b1.cell (p := ⟨w.heap.size, 0, none⟩) hlt).trans hbx
          have hm1 := (valid_parts hv).1
          have d1 : ((m.length : Int) == 0) = false := by rw [beq_eq_false_iff_ne]; omega
          obtain ⟨km, hkm⟩ : ∃ k, (m.length * m.length * m.length - m.length) / 6 = k := ⟨_, rfl⟩
          rw [hkm] at hM8
          have Hkm := hid hkm
          obtain ⟨ul, hul⟩ : ∃ u, resetW M = u := ⟨_, rfl⟩
          rw [hul] at hUb hM6 hM7 hM8 ⊢
          have hle : ((ul.length : Nat) : Int) ≤ (km : Int) := Int.ofNat_le.2 hM8
          have hled : decide (((ul.length : Nat) : Int) ≤ (km : Int)) = true := decide_eq_true hle
          have HMl := hid hMl
          clear hy hM4 hM5 h1 hkm hul hM1 hMl hpr
          go_wp2_with fail
          generalize w1.alloc (.cells #[.slice M1 m.length M2] 24) = Y at *
          generalize w1.heap.size = b3 at *
          have hl3 := World.block_lt_of_cell? _ _ q1
          have hl0 := World.block_lt_of_cell? _ _ c1
          have hrY := hr.below b1
          have BY := btr hX b1
          have hTY := hTX.on b1
          refine (rValid_bool _ m true _ hrY hv).mono ?_
          rintro e y1 ⟨rfl, j1⟩
          have x0 := (j1.cell (p := ⟨w.heap.size, 0, none⟩) hl0).trans c1
          have x3 := (j1.cell (p := ⟨b3, 0, none⟩) hl3).trans q1
          go_wp2_with fail
          refine (rConnected_bool _ m true _ (hrY.below j1) hv hc).mono ?_
          rintro e y2 ⟨rfl, j2⟩
          have N2 := btr j1 j2
          have x0 := (N2.cell (p := ⟨w.heap.size, 0, none⟩) hl0).trans c1
          have x3 := (N2.cell (p := ⟨b3, 0, none⟩) hl3).trans q1
          go_wp2_with fail
          refine (rPeriod_as _ m 1 _ (hrY.below N2) hv (by rw [perR_eq hv hc, hp1])).mono ?_
          rintro e y3 ⟨rfl, j3⟩
          have N3 := btr N2 j3
          have x0 := (N3.cell (p := ⟨w.heap.size, 0, none⟩) hl0).trans c1
          have x3 := (N3.cell (p := ⟨b3, 0, none⟩) hl3).trans q1
          go_wp2_with fail
          refine (rValid_bool _ M true _ (hMb.below N3) hM2).mono ?_
          rintro e y4 ⟨rfl, j4⟩
          have N4 := btr N3 j4
          have x0 := (N4.cell (p := ⟨w.heap.size, 0, none⟩) hl0).trans c1
          have x3 := (N4.cell (p := ⟨b3, 0, none⟩) hl3).trans q1
          go_wp2_with fail
          refine (rSameA_bool _ _ m M true _ (hrY.below N4) (hMb.below N4) hv hM2 hsm).mono ?_
          rintro e y5 ⟨rfl, j5⟩
          have N5 := btr N4 j5
          have x0 := (N5.cell (p := ⟨w.heap.size, 0, none⟩) hl0).trans c1
          have x3 := (N5.cell (p := ⟨b3, 0, none⟩) hl3).trans q1
          go_wp2_with fail
          refine (rResets_yes _ _ M ul _ (hMb.below N5) (hUb.below N5) hM2 hM6 (by rw [HMl.out]; exact hM7)).mono ?_
          rintro e y6 ⟨rfl, j6⟩
          have N6 := btr N5 j6
          have x0 := (N6.cell (p := ⟨w.heap.size, 0, none⟩) hl0).trans c1
          go_wp2_with fail
          refine (rMost_as m.length km _ hmm Hkm).mono ?_
          rintro e y7 ⟨rfl, rfl⟩
          go_wp2_with fail
          refine (Aw.out _ (hTY.on N6)).mono ?_
          rintro e y8 ⟨rfl, j8⟩
          go_wp2
          go_ret
          exact ⟨rfl, btr BY (btr N6 j8)⟩
        · have hfew := hid (road_few hv hc hp1 hno)
          have b1 := bal h1 (.cells #[.slice none 0 0] 24)
          have c1 := (b1.cell (p := ⟨w.heap.size, 0, none⟩) hlt).trans hbx
          go_wp2_with fail
          generalize w1.alloc (.cells #[.slice none 0 0] 24) = Y at *
          have hl0 := World.block_lt_of_cell? _ _ c1
          have hrY := hr.below b1
          have BY := btr hX b1
          have hTY := hTX.on b1
          refine (rValid_bool _ m true _ hrY hv).mono ?_
          rintro e y1 ⟨rfl, j1⟩
          have x0 := (j1.cell (p := ⟨w.heap.size, 0, none⟩) hl0).trans c1
          go_wp2_with fail
          refine (rConnected_bool _ m true _ (hrY.below j1) hv hc).mono ?_
          rintro e y2 ⟨rfl, j2⟩
          have N2 := btr j1 j2
          have x0 := (N2.cell (p := ⟨w.heap.size, 0, none⟩) hl0).trans c1
          go_wp2_with fail
          refine (rPeriod_as _ m 1 _ (hrY.below N2) hv (by rw [perR_eq hv hc, hp1])).mono ?_
          rintro e y3 ⟨rfl, j3⟩
          have N3 := btr N2 j3
          have x0 := (N3.cell (p := ⟨w.heap.size, 0, none⟩) hl0).trans c1
          go_wp2_with fail
          refine (rColorings_any _ m 1000000 none _ (hrY.below N3) hv (by decide) (by decide) hfew).mono ?_
          rintro e y4 ⟨rfl, j4⟩
          have N4 := btr N3 j4
          have k1 : colN none = 0 := rfl
          have k2 : colB none = false := rfl
          rw [k1, k2]
          go_wp2_with fail
          refine (Aw.out _ (hTY.on N4)).mono ?_
          rintro e y5 ⟨rfl, j5⟩
          go_wp2
          go_ret
          exact ⟨rfl, btr BY (btr N4 j5)⟩
      · obtain ⟨d, hd⟩ : ∃ d, perM m = d := ⟨_, rfl⟩
        rw [hd] at hpos hp1 hpr
        have hd1 : decide ((1 : Int) < (d : Int)) = true := decide_eq_true (by omega)
        refine (Road_err _ m d 0 4 _ hr (.inl ⟨hc, hv, by rw [hd], rfl⟩) (.inr ⟨rfl, by omega, rfl⟩)).mono ?_
        rintro e w1 ⟨rfl, h1⟩
        have b1 := bal h1 (.cells #[.slice none 0 0] 24)
        have c1 := (b1.cell (p := ⟨w.heap.size, 0, none⟩) hlt).trans hbx
        clear hp1
        go_wp2_with fail
        refine (rValid_bool _ m true _ (hr.below b1) hv).mono ?_
        rintro e w2 ⟨rfl, h2⟩
        have B2 := btr b1 h2
        have c2 := (B2.cell (p := ⟨w.heap.size, 0, none⟩) hlt).trans hbx
        go_wp2_with fail
        refine (rConnected_bool _ m true _ (hr.below B2) hv hc).mono ?_
        rintro e w3 ⟨rfl, h3⟩
        have B3 := btr B2 h3
        have c3 := (B3.cell (p := ⟨w.heap.size, 0, none⟩) hlt).trans hbx
        go_wp2_with fail
        refine (rPeriod_as _ m d _ (hr.below B3) hv hpr).mono ?_
        rintro e w4 ⟨rfl, h4⟩
        have B4 := btr B3 h4
        go_wp2_with fail
        refine (Aw.out _ (hTX.on B4)).mono ?_
        rintro e w5 ⟨rfl, h5⟩
        go_wp2
        go_ret
        exact ⟨rfl, btr hX (btr B4 h5)⟩
end Go.Proofs.YtlpfglkopnmlnaaDoor
namespace Go.Proofs.YtlpfglkopnmlnaaDoor
open Go.RowKit Go.Shelf
def m5p : List (List Int) := [[1], [0]]
theorem m5p_valid : validM m5p = true := by decide +kernel
theorem m5p_conn : connM m5p = true := by
  rw [connM_iff m5p (by decide)]
  intro s t hs ht
  rw [← reachL_get m5p_valid hs]
  have h : ∀ s : Fin 2, ∀ t : Fin 2, (reachL m5p s).getD t false = true := by decide +kernel
  exact h ⟨s, hs⟩ ⟨t, ht⟩
theorem m5p_per : perM m5p = 2 := by decide +kernel
theorem road_m5p (v : Value) (w : World) (h : Rows w v m5p) : Calls Tryd.prog 20 #[.agg #[v]] w (RoadErr w 4) :=
  Road_err v m5p 2 0 4 w h (.inl ⟨m5p_conn, m5p_valid, by rw [m5p_per]; rfl, rfl⟩) (.inr ⟨rfl, by omega, rfl⟩)
theorem lit1_rows' (w : World) (a b : Int) (k : Nat) (hk : w.heap.size = k) : Rows (((w.alloc (.cells #[.int .i64 a] 3)).alloc (.cells #[.int .i64 b] 3)).alloc
    (.cells #[.slice (some ⟨k, 0, none⟩) 1 1, .slice (some ⟨k + 1, 0, none⟩) 1 1] 41)) (.slice (some ⟨k + 1 + 1, 0, none⟩) 2 2) [[a], [b]] := by
  subst hk
  exact rows2 _ _ _ _ _ _ _ (by simp) ((Ints.one' w a _ _ rfl).alloc _) (Ints.one' _ b _ _ (by simp))
set_option maxRecDepth 100000 in
set_option maxHeartbeats 2000000 in
theorem tColours_any (w : World) (hT : Tab w) :
    Calls Tryd.prog 36 #[] w fun e w' => e = .returned (.bool true) ∧ Below w.heap.size w w' := by
  go_enter Tryd.func36, Tryd.ntmps36
  go_wp2_with fail
  have hR0 := lit2_rows w 1 0 0 1
  have hX := bal (bal (bal (Below.refl _ w) (.cells #[.int .i64 1, .int .i64 0] 3)) (.cells #[.int .i64 0, .int .i64 1] 3)) (.cells #[.slice (some ⟨w.heap.size, 0, none⟩) 2 2, .slice (some ⟨w.heap.size + 1, 0, none⟩) 2 2] 41)
  refine (road_m5a _ _ (hT.on hX) hR0).mono ?_
  rintro e w6 ⟨rr, ru, M, rfl, hM1, hM2, hM3, hM4, hM5, hM6, hM7, -, h6⟩
  obtain ⟨M1, M2, rfl, -⟩ := id hM4
  obtain ⟨U1, U2, rfl, -⟩ := id hM5
  have hml : M.length = 2 := hM1.1
  rw [hml] at hM4 hM7 ⊢
  have b6 := bal h6 (.cells #[.slice M1 2 M2] 24)
  have q6 := (Boxed.new w6 24 (.slice M1 2 M2)).cell
  have hM8 : Rows (w6.alloc (.cells #[.slice M1 2 M2] 24)) (.slice M1 2 M2) M := hM4.alloc _
  have hM9 : Ints (w6.alloc (.cells #[.slice M1 2 M2] 24)) (.slice U1 (resetW M).length U2) (resetW M) := hM5.alloc _
  have B6 := btr hX b6
  have hz6 : (w6.alloc (.cells #[.slice M1 2 M2] 24)).heap.size = w6.heap.size + 1 := by simp
  have Hml := hid hml
  clear hM4 hM5 h6 b6 hX hR0 hml
  generalize hul : resetW M = ul at *
  clear hul
  go_wp2_with fail
  generalize w6.alloc (.cells #[.slice M1 2 M2] 24) = Z6 at *
  have hX6 := bal (bal (bal (Below.refl _ Z6) (.cells #[.int .i64 1] 3)) (.cells #[.int .i64 0] 3)) (.cells #[.slice (some ⟨w6.heap.size + 1, 0, none⟩) 1 1, .slice (some ⟨w6.heap.size + 1 + 1, 0, none⟩) 1 1] 41)
  have hL6 := lit1_rows' Z6 1 0 (w6.heap.size + 1) hz6
  generalize w6.heap.size = b6 at *
  refine (road_m5p _ _ hL6).mono ?_
  rintro e w7 ⟨rfl, h7⟩
  have b7 := btr hX6 h7
  have b8 := bal b7 (.cells #[.slice none 0 0] 24)
  have q9 := (b8.cell (p := ⟨b6, 0, none⟩) (World.block_lt_of_cell? _ _ q6)).trans q6
  have hM10 := hM8.below b8
  have hM11 := hM9.below b8
  have B8 := btr B6 b8
  clear hX6 h7 b7 b8 q6 hM8 hM9 B6 hL6
  go_wp2_with fail
  refine (tSpread_as _ _ M ul 1 _ hM10 hM11 hM2 hM6 (hid (by rw [Hml.out]; exact hM7))).mono ?_
  rintro e w9 ⟨rfl, h9⟩
  go_wp2
  go_ret
  exact ⟨rfl, btr B8 h9⟩
end Go.Proofs.YtlpfglkopnmlnaaDoor
namespace Go.Proofs.YtlpfglkopnmlnaaDoor
open Go.RowKit Go.Shelf
/-- A list's beginning. -/
theorem Ints.take {w : World} {A : Option Addr} {c : Nat} {l : List Int} (h : Ints w (.slice A l.length c) l) {k : Nat} (hk : k ≤ l.length) (d : Nat) : Ints w (.slice A k d) (l.take k) := by
  obtain ⟨A', c', hv, hl, hc⟩ := h
  simp only [Value.slice.injEq] at hv
  obtain ⟨rfl, -, rfl⟩ := hv
  have hlk : (l.take k).length = k := by simp; omega
  refine ⟨A, d, by rw [hlk], by omega, fun i hi => ?_⟩
  obtain ⟨b, off, hA, hcell⟩ := hc i (by omega)
  refine ⟨b, off, hA, ?_⟩
  rw [hcell]
  congr 2
  simp only [List.getD_eq_getElem?_getD, List.getElem?_take]
  rw [if_pos (by omega)]
end Go.Proofs.YtlpfglkopnmlnaaDoor
namespace Go.Proofs.YtlpfglkopnmlnaaDoor
open Go.RowKit Go.Shelf
set_option maxRecDepth 100000 in
set_option maxHeartbeats 1000000 in
theorem tSameInts_any (v u : Value) (l m : List Int) (w : World) (h : Ints w v l) (hu : Ints w u m) :
    Calls Tryd.prog 43 #[v, u] w fun e w' => e = .returned (.bool (decide (l = m))) ∧ Below w.heap.size w w' := by
  obtain ⟨A, cap, rfl, hl, hc⟩ := h
  obtain ⟨Au, capu, rfl, hlu, hcu⟩ := hu
  unfold big at hl hlu
  by_cases hlen : l.length = m.length
  · have hne : ((l.length : Int) != (m.length : Int)) = false := by simp; omega
    have Hlen := hid hlen
    clear hlen
    go_enter Tryd.func43, Tryd.ntmps43
    go_wp2
    go_loopw [5] (fun i wr => ∃ k : Nat, k ≤ l.length ∧ i = .int .i64 k ∧ l.take k = m.take k ∧ Below w.heap.size w wr) (fun i _ => l.length - (intOf i).toNat)
    case atStart => exact ⟨0, Nat.zero_le _, rfl, rfl, Below.refl _ _⟩
    case round =>
      obtain ⟨k, hk, rfl, htk, hB⟩ := hrel
      have Htk := hid htk
      clear htk
      by_cases hlt : k < l.length
      · have hle := Hlen.out
        obtain ⟨b, off, hA, hcell⟩ := hc k hlt
        obtain ⟨b', off', hA', hcell'⟩ := hcu k (by omega)
        subst hA
        subst hA'
        have c1 := (hB.cell (p := ⟨b, off + k, none⟩) (World.block_lt_of_cell? _ _ hcell)).trans hcell
        have c2 := (hB.cell (p := ⟨b', off' + k, none⟩) (World.block_lt_of_cell? _ _ hcell')).trans hcell'
        have Hs := hid (fun hx => take_eq_succ hlt Hlen.out Htk.out hx)
        have Hf := hid (fun hx => ne_of_getD (l := l) (m := m) (k := k) hx)
        have i1 : (k : Int) < l.length := by omega
        have i2 : (k : Int) < m.length := by omega
        clear hc hcu hcell hcell' hle
        generalize l.getD k 0 = x at *
        generalize m.getD k 0 = y at *
        by_cases hxy : x = y
        · have hd : (x != y) = false := by simp [hxy]
          have Hxy := hid hxy
          clear hxy
          go_wp2_with fail
          go_quiet (fail)
          go_wp2
          go_roundw
          case rel => exact ⟨k + 1, by omega, by go_num, Hs.out Hxy.out, bdr hB _⟩
          case measure => simp [intOf]; omega
        · have hd : (x != y) = true := by simp [hxy]
          have Hxy := hid hxy
          clear hxy
          go_wp2_with fail
          go_quiet (fail)
          go_wp2
          go_ret
          exact ⟨ret_bool (Hf.out Hxy.out).symm, bdr hB _⟩
      · go_wp2
        go_ret
        have h1 := Htk.out
        have h2 := Hlen.out
        rw [List.take_of_length_le (by omega), List.take_of_length_le (by omega)] at h1
        exact ⟨ret_bool (by simp [h1]), hB⟩
  · have hne : ((l.length : Int) != (m.length : Int)) = true := by simp; omega
    have Hlen := hid hlen
    clear hlen
    go_enter Tryd.func43, Tryd.ntmps43
    go_wp2
    go_ret
    exact ⟨ret_bool (by
      symm
      rw [decide_eq_false_iff_not]
      intro h
      exact Hlen.out (by rw [h])), Below.refl _ _⟩
end Go.Proofs.YtlpfglkopnmlnaaDoor
namespace Go.Proofs.YtlpfglkopnmlnaaDoor
open Go.RowKit Go.Shelf
theorem PermR.other {m k l : List (List Int)} (h : PermR m k) (h2 : PermR m l) : PermR k l :=
  ⟨h2.1.trans h.1.symm, fun s hs => (h2.2 s (by have := h.1; omega)).trans (h.2 s (by have := h.1; omega)).symm⟩
/-- Road of a strongly connected automaton: an error, or a colouring with a reset word. -/
theorem Road_conn (v : Value) (m : List (List Int)) (w : World) (hT : Tab w) (h : Rows w v m) (hv : validM m = true) (hc : connM m = true) :
    Calls Tryd.prog 20 #[.agg #[v]] w fun e w' => ∃ (rA : Option Addr) (rn rc : Nat) (uA : Option Addr) (un uc : Nat) (g : Int), e = .returned (.tuple #[.agg #[.slice rA rn rc], .slice uA un uc, .int .i64 g]) ∧ Below w.heap.size w w' ∧ (g ≠ 0 ∨ (g = 0 ∧ ∃ M, PermR m M ∧ Rows w' (.slice rA rn rc) M)) := by
  have hp := perM_pos hv hc
  by_cases h1 : perM m = 1
  · refine (Road_ok v m w hT h hv hc h1).mono ?_
    rintro e w1 (⟨r, u, M, rfl, a1, a2, a3, a4, a5⟩ | ⟨a1, rfl, a5⟩)
    · obtain ⟨rA, rc, rfl, -⟩ := id a3
      obtain ⟨uA, un, uc, rfl⟩ := own_slice3 a4
      exact ⟨_, _, _, _, _, _, _, rfl, a5, .inr ⟨rfl, M, allNum_perm hv a1, a3⟩⟩
    · exact ⟨_, _, _, _, _, _, _, rfl, a5, .inl (by decide)⟩
  · refine (Road_err v m (perM m) 0 4 w h (.inl ⟨hc, hv, rfl, rfl⟩) (.inr ⟨rfl, by omega, rfl⟩)).mono ?_
    rintro e w1 ⟨rfl, a5⟩
    exact ⟨_, _, _, _, _, _, _, rfl, a5, .inl (by decide)⟩
theorem tSameInts_eq (v u : Value) (l : List Int) (w : World) (h : Ints w v l) (hu : Ints w u l) : Calls Tryd.prog 43 #[v, u] w fun e w' => e = .returned (.bool true) ∧ Below w.heap.size w w' := by
  have := tSameInts_any v u l l w h hu
  rwa [decide_eq_true rfl] at this
set_option maxRecDepth 100000 in
set_option maxHeartbeats 4000000 in
theorem topColours_any (v u : Value) (m : List (List Int)) (tl : List Int) (w : World) (hT : Tab w) (h : Rows w v m) (hu : Ints w u tl) :
    Calls Tryd.prog 9 #[.agg #[v], u] w fun e w' => e = .returned (.bool true) ∧ Below w.heap.size w w' := by
  obtain ⟨A, cap, rfl, hml, -⟩ := id h
  have hX := bal (Below.refl _ w) (.cells #[.slice A m.length cap] 24)
  have hbx := (Boxed.new w 24 (.slice A m.length cap)).cell
  go_enter Tryd.func9, Tryd.ntmps9
  go_wp2_with fail
  have hr := h.below hX
  have hq := hu.below hX
  have hTX := hT.on hX
  generalize w.alloc (.cells #[.slice A m.length cap] 24) = X at *
  have hlt := World.block_lt_of_cell? _ _ hbx
  cases hv : validM m with
  | false =>
    refine (tValid_bool _ m false _ hr hv).mono ?_
    rintro e w1 ⟨rfl, h1⟩
    go_wp2_with fail
    refine (tColours_any _ (hTX.on h1)).mono ?_
    rintro e w2 ⟨rfl, h2⟩
    go_wp2
    go_ret
    exact ⟨rfl, btr hX (btr h1 h2)⟩
  | true =>
    refine (tValid_bool _ m true _ hr hv).mono ?_
    rintro e w1 ⟨rfl, h1⟩
    have c1 := (h1.cell (p := ⟨w.heap.size, 0, none⟩) hlt).trans hbx
    have r3 := turnM_perm hv tl
    have ln := turnM_length m tl
    obtain ⟨L, hL⟩ : ∃ L, turnM m tl = L := ⟨_, rfl⟩
    have hcol := tColoured_any (.slice A m.length cap) u m tl
    rw [hL] at r3 hcol ln
    have lv := r3.valid hv
    have sAC := r3.same hv
    have al := alike_of hv lv sAC
    obtain ⟨cb, hcb⟩ : ∃ b, connM m = b := ⟨_, rfl⟩
    have hcb2 := hid ((connM_alike hv lv al).symm.trans hcb)
    obtain ⟨CL, cx, hcA, hcC⟩ : ∃ (CL : List Int) (cx : Int), Hid ((connM m = true ∧ clsM m = CL ∧ cx = 0) ∨ (connM m = false ∧ CL = [] ∧ cx = 2)) ∧ Hid ((connM L = true ∧ clsM L = CL ∧ cx = 0) ∨ (connM L = false ∧ CL = [] ∧ cx = 2)) := by
      cases hb : connM m with
      | true => exact ⟨clsM m, 0, hid (.inl ⟨rfl, rfl, rfl⟩), hid (.inl ⟨(connM_alike hv lv al).symm.trans hb, (clsM_alike hv lv al hb).symm, rfl⟩)⟩
      | false => exact ⟨[], 2, hid (.inr ⟨rfl, rfl, rfl⟩), hid (.inr ⟨(connM_alike hv lv al).symm.trans hb, rfl, rfl⟩)⟩
    have hper := hid (fun hb : connM m = true => (perM_alike hv lv al hb))
    have hca := hid hcb
    have Hcol := hid hcol
    have s1 := hid (show sameOk m L = true by rw [sameOk, hv, lv, sAC]; rfl)
    have s2 := hid (show sameE m L = 0 by rw [sameE, hv, lv]; rfl)
    have R3 := hid r3
    have Ln := hid ln
    have hmm := (valid_parts hv).2.1
    clear hcol hcb hL al r3 ln
    go_wp2_with fail
    refine (Hcol.out _ (hr.below h1) (hq.below h1) hv).mono ?_
    rintro e w4 ⟨r4, rfl, hMR, h4⟩
    have hRL : Rows w4 r4 L := hMR.rows (by rw [Ln.out]; exact hml)
    obtain ⟨rA, rn, rc, rfl⟩ := hMR.slice'
    have b4 := bal h4 (.cells #[.slice rA rn rc] 24)
    have q4 := (Boxed.new w4 24 (.slice rA rn rc)).cell
    have hRL5 : Rows (w4.alloc (.cells #[.slice rA rn rc] 24)) (.slice rA rn rc) L := hRL.alloc _
    have B5 := btr h1 b4
    have c5 := (B5.cell (p := ⟨w.heap.size, 0, none⟩) hlt).trans hbx
    clear c1 h4 b4 hRL hMR Hcol h1
    go_wp2_with fail
    generalize w4.alloc (.cells #[.slice rA rn rc] 24) = Z at *
    generalize w4.heap.size = b9 at *
    have hrZ := hr.below B5
    have hTZ := hTX.on B5
    have hl9 := World.block_lt_of_cell? _ _ q4
    have hl0 := World.block_lt_of_cell? _ _ c5
    have BZ := btr hX B5
    have N0 := Below.refl Z.heap.size Z
    clear hr hq B5 hTX hX hbx
    refine (Same_anyH _ _ m L true 0 _ (hrZ.below N0) (hRL5.below N0) s1 s2).mono ?_
    rintro e y1 ⟨rfl, j1⟩
    have N1 := btr N0 j1
    have x0 := (N1.cell (p := ⟨w.heap.size, 0, none⟩) hl0).trans c5
    have x9 := (N1.cell (p := ⟨b9, 0, none⟩) hl9).trans q4
    go_wp2_with fail
    refine (Connected_two _ m cb _ (hrZ.below N1) hv hca).mono ?_
    rintro e y2 ⟨rfl, j2⟩
    have N2 := btr N1 j2
    have x0 := (N2.cell (p := ⟨w.heap.size, 0, none⟩) hl0).trans c5
    have x9 := (N2.cell (p := ⟨b9, 0, none⟩) hl9).trans q4
    go_wp2_with fail
    refine (Connected_two _ L cb _ (hRL5.below N2) lv hcb2).mono ?_
    rintro e y3 ⟨rfl, j3⟩
    have N3 := btr N2 j3
    have x0 := (N3.cell (p := ⟨w.heap.size, 0, none⟩) hl0).trans c5
    have x9 := (N3.cell (p := ⟨b9, 0, none⟩) hl9).trans q4
    go_wp2_with fail
    refine (Classes_two _ m CL cx _ (hrZ.below N3) hv hcA).mono ?_
    rintro e y4 ⟨lA, lc, rfl, iA, j4⟩
    have N4 := btr N3 j4
    have x0 := (N4.cell (p := ⟨w.heap.size, 0, none⟩) hl0).trans c5
    have x9 := (N4.cell (p := ⟨b9, 0, none⟩) hl9).trans q4
    go_wp2_with fail
    refine (Classes_two _ L CL cx _ (hRL5.below N4) lv hcC).mono ?_
    rintro e y5 ⟨mA, mc, rfl, iC, j5⟩
    have N5 := btr N4 j5
    have iA := iA.below j5
    have x0 := (N5.cell (p := ⟨w.heap.size, 0, none⟩) hl0).trans c5
    have x9 := (N5.cell (p := ⟨b9, 0, none⟩) hl9).trans q4
    cases cb with
    | false =>
      obtain rfl : cx = 2 := by
        rcases hcA.out with ⟨h1, _⟩ | ⟨_, _, h1⟩
        · rw [hca.out] at h1; cases h1
        · exact h1
      go_wp2_with fail
      refine (tColours_any _ (hTZ.on N5)).mono ?_
      rintro e z1 ⟨rfl, z2⟩
      go_wp2
      go_ret
      exact ⟨rfl, btr BZ (btr N5 z2)⟩
    | true =>
      obtain rfl : cx = 0 := by
        rcases hcA.out with ⟨_, _, h1⟩ | ⟨h1, _⟩
        · exact h1
        · rw [hca.out] at h1; cases h1
      obtain ⟨pd, hpd⟩ : ∃ pd : Int, (perM m : Int) = pd := ⟨_, rfl⟩
      have hpA := hid hpd.symm
      have hpC := hid (show pd = perM L by rw [← hper.out hca.out]; exact hpd.symm)
      clear hpd
      go_wp2_with fail
      refine (Period_any _ m pd 0 _ (hrZ.below N5) (.inl ⟨hca.out, hv, hpA.out, rfl⟩)).mono ?_
      rintro e y6 ⟨rfl, j6⟩
      have N6 := btr N5 j6
      have x0 := (N6.cell (p := ⟨w.heap.size, 0, none⟩) hl0).trans c5
      have x9 := (N6.cell (p := ⟨b9, 0, none⟩) hl9).trans q4
      go_wp2_with fail
      refine (Period_any _ L pd 0 _ (hRL5.below N6) (.inl ⟨hcb2.out, lv, hpC.out, rfl⟩)).mono ?_
      rintro e y7 ⟨rfl, j7⟩
      have N7 := btr N6 j7
      have x0 := (N7.cell (p := ⟨w.heap.size, 0, none⟩) hl0).trans c5
      have x9 := (N7.cell (p := ⟨b9, 0, none⟩) hl9).trans q4
      go_wp2_with fail
      refine (Road_conn _ m _ (hTZ.on N7) (hrZ.below N7) hv hca.out).mono ?_
      rintro e y8 ⟨sA, sn, sc, tA, tn, tc, g, rfl, j8, hg⟩
      have b8 := bal j8 (.cells #[.slice sA sn sc] 24)
      have q8 := (Boxed.new y8 24 (.slice sA sn sc)).cell
      have N8 := btr N7 b8
      have x0 := (N8.cell (p := ⟨w.heap.size, 0, none⟩) hl0).trans c5
      have x9 := (N8.cell (p := ⟨b9, 0, none⟩) hl9).trans q4
      have iA8 := iA.below (Below.refl _ _)
      have hiA := hid (fun (W : World) (hb : Below y5.heap.size y5 W) => And.intro (iA.below hb) (iC.below hb))
      have B58 : Below y5.heap.size y5 (y8.alloc (.cells #[.slice sA sn sc] 24)) := btr j6 (btr j7 b8)
      have hi8 := hiA.out _ B58
      clear iA iC iA8
      rcases hg with hg | ⟨rfl, M, hPM, hRM⟩
      · have hgd : (g != 0) = true := by simp [hg]
        go_wp2_with fail
        generalize y8.alloc (.cells #[.slice sA sn sc] 24) = V at *
        refine (tSameInts_eq _ _ CL _ hi8.1 hi8.2).mono ?_
        rintro e y9 ⟨rfl, j9⟩
        have N9 := btr N8 j9
        go_wp2_with fail
        refine (tColours_any _ (hTZ.on N9)).mono ?_
        rintro e z1 ⟨rfl, z2⟩
        go_wp2
        go_ret
        exact ⟨rfl, btr BZ (btr N9 z2)⟩
      · have hPK := R3.out.other hPM
        have hvM := hPM.valid hv
        have hsLM := hPK.same lv
        have hRM8 : Rows (y8.alloc (.cells #[.slice sA sn sc] 24)) (.slice sA sn sc) M := hRM.alloc _
        clear hRM hPK hPM
        go_wp2_with fail
        generalize y8.alloc (.cells #[.slice sA sn sc] 24) = V at *
        generalize y8.heap.size = b8 at *
        refine (tSameInts_eq _ _ CL _ hi8.1 hi8.2).mono ?_
        rintro e y9 ⟨rfl, j9⟩
        have N9 := btr N8 j9
        have x9 := (N9.cell (p := ⟨b9, 0, none⟩) hl9).trans q4
        have x8 := (j9.cell (p := ⟨b8, 0, none⟩) (World.block_lt_of_cell? _ _ q8)).trans q8
        go_wp2_with fail
        refine (tAlike_any _ _ L M _ (hRL5.below N9) (hRM8.below j9) lv hvM hsLM).mono ?_
        rintro e y10 ⟨rfl, j10⟩
        have N10 := btr N9 j10
        go_wp2_with fail
        refine (tColours_any _ (hTZ.on N10)).mono ?_
        rintro e z1 ⟨rfl, z2⟩
        go_wp2
        go_ret
        exact ⟨rfl, btr BZ (btr N10 z2)⟩
end Go.Proofs.YtlpfglkopnmlnaaDoor
namespace Go.Proofs.YtlpfglkopnmlnaaDoor
open Go.RowKit Go.Shelf
/-- A reset word leads all states to one. -/
theorem reset_to {m : List (List Int)} (hv : validM m = true) (hall : allMerge m) : ∃ t, t < m.length ∧ ∀ s, s < m.length → runM m s (resetW m) = t := by
  obtain ⟨p1, -⟩ := valid_parts hv
  have h1 := reset_one hv hall
  have hw := resetW_word hv hall
  obtain ⟨x, hx⟩ : ∃ x, imageM m (allM m.length) (resetW m) = [x] := by
    match hi : imageM m (allM m.length) (resetW m), h1 with
    | [x], _ => exact ⟨x, rfl⟩
  obtain ⟨t, rfl, ht⟩ := image_one hv hw hx
  refine ⟨t, ?_, ht⟩
  rw [← ht 0 (by omega)]
  exact runM_lt hv (resetW m) 0 (by omega) (isWordM_all hw)
theorem road_size {m : List (List Int)} (hv : validM m = true) (hc : connM m = true) (hp : perM m = 1) (hno : ∀ M ∈ allNum m, ¬ allMerge M) : ∀ c, colTo m 1152921504606846976 m.length = some c → 1000000 < c := fun c h => by
  apply Classical.byContradiction
  intro h2
  obtain ⟨M, a1, a2⟩ := road_tried hv hc hp h (by omega)
  exact hno M a1 a2
theorem ints_nil (w : World) : Ints w (.slice none 0 0) [] := ⟨none, 0, rfl, by unfold big; simp, fun i hi => by simp at hi⟩
set_option maxRecDepth 100000 in
set_option maxHeartbeats 4000000 in
theorem topRoad_early (v u1 u2 : Value) (m : List (List Int)) (tl ul : List Int) (w : World) (hT : Tab w) (h : Rows w v m) (hu1 : Ints w u1 tl) (hu2 : Ints w u2 ul) (hcv : validM m = false ∨ (validM m = true ∧ connM m = false)) :
    Calls Tryd.prog 8 #[.agg #[v], u1, u2] w fun e w' => e = .returned (.bool true) ∧ Below w.heap.size w w' := by
  obtain ⟨A, cap, rfl, hml, -⟩ := id h
  have hX := bal (Below.refl _ w) (.cells #[.slice A m.length cap] 24)
  have hbx := (Boxed.new w 24 (.slice A m.length cap)).cell
  go_enter Tryd.func8, Tryd.ntmps8
  go_wp2_with fail
  have hr := h.below hX
  have hTX := hT.on hX
  generalize w.alloc (.cells #[.slice A m.length cap] 24) = X at *
  have hlt := World.block_lt_of_cell? _ _ hbx
  rcases hcv with hv | ⟨hv, hc⟩
  · refine (tValid_bool _ m false _ hr hv).mono ?_
    rintro e w1 ⟨rfl, h1⟩
    go_wp2_with fail
    refine (tColours_any _ (hTX.on h1)).mono ?_
    rintro e w2 ⟨rfl, h2⟩
    go_wp2
    go_ret
    exact ⟨rfl, btr hX (btr h1 h2)⟩
  · refine (tValid_bool _ m true _ hr hv).mono ?_
    rintro e w1 ⟨rfl, h1⟩
    have c1 := (h1.cell (p := ⟨w.heap.size, 0, none⟩) hlt).trans hbx
    go_wp2_with fail
    refine (Connected_two _ m false _ (hr.below h1) hv (hid hc)).mono ?_
    rintro e w2 ⟨rfl, h2⟩
    have B2 := btr h1 h2
    have c2 := (B2.cell (p := ⟨w.heap.size, 0, none⟩) hlt).trans hbx
    go_wp2_with fail
    refine (Road_err _ m 0 2 2 _ (hr.below B2) (.inr ⟨.inr ⟨hv, hc, rfl⟩, rfl⟩) (.inl ⟨by decide, rfl⟩)).mono ?_
    rintro e w3 ⟨rfl, h3⟩
    have B3 := btr B2 (bal h3 (.cells #[.slice none 0 0] 24))
    go_wp2_with fail
    refine (tColours_any _ (hTX.on B3)).mono ?_
    rintro e w4 ⟨rfl, h4⟩
    go_wp2
    go_ret
    exact ⟨rfl, btr hX (btr B3 h4)⟩
set_option maxRecDepth 100000 in
set_option maxHeartbeats 8000000 in
theorem topRoad_period (v u1 u2 : Value) (m : List (List Int)) (tl ul : List Int) (w : World) (hT : Tab w) (h : Rows w v m) (hu1 : Ints w u1 tl) (hu2 : Ints w u2 ul) (hv : validM m = true) (hc : connM m = true) (hp : 1 < perM m) :
    Calls Tryd.prog 8 #[.agg #[v], u1, u2] w fun e w' => e = .returned (.bool true) ∧ Below w.heap.size w w' := by
  obtain ⟨A, cap, rfl, hml, -⟩ := id h
  have hX := bal (Below.refl _ w) (.cells #[.slice A m.length cap] 24)
  have hbx := (Boxed.new w 24 (.slice A m.length cap)).cell
  have r3 := turnM_perm hv tl
  have lv := r3.valid hv
  have ll := r3.lets hv
  have al := alike_of hv lv (r3.same hv)
  have lc := (connM_alike hv lv al).symm.trans hc
  have hper := perM_alike hv lv al hc
  have hP1 := properM_all hv ul
  have hP2 := properM_len m ul
  obtain ⟨d, hd⟩ : ∃ d, perM m = d := ⟨_, rfl⟩
  obtain ⟨L, hL⟩ : ∃ L, turnM m tl = L := ⟨_, rfl⟩
  obtain ⟨P, hPe⟩ : ∃ P, properM m ul = P := ⟨_, rfl⟩
  rw [hL] at r3 lv ll lc hper
  rw [hPe] at hP1 hP2
  have hwP : isWordM L P = true := by
    unfold isWordM
    rw [ll, hP1, decide_eq_true (by omega)]; rfl
  have hwN : isWordM L [] = true := by unfold isWordM; simp
  have hi1 := per_image lv lc hwP
  have hi2 := per_image lv lc hwN
  rw [← hper, hd] at hi1 hi2
  obtain ⟨i1, hi1e⟩ : ∃ i, (imageM L (allM L.length) P).length = i := ⟨_, rfl⟩
  obtain ⟨i2, hi2e⟩ : ∃ i, (imageM L (allM L.length) []).length = i := ⟨_, rfl⟩
  rw [hi1e] at hi1
  rw [hi2e] at hi2
  have Hi1 := hid hi1e
  have Hi2 := hid hi2e
  have HP := hid hPe
  have Hd := hid hd
  have hcol := tColoured_any (.slice A m.length cap) u1 m tl
  rw [hL] at hcol
  have Hcol := hid hcol
  have Ln := hid r3.1
  rw [hd] at hp
  have hd1 : decide ((1 : Int) < (d : Int)) = true := decide_eq_true (by omega)
  have hd2 : decide ((d : Int) ≤ (i1 : Int)) = true := decide_eq_true (by omega)
  have hd3 : decide ((d : Int) ≤ (i2 : Int)) = true := decide_eq_true (by omega)
  have hd4 : decide ((d : Int) < 1) = false := decide_eq_false (by omega)
  have hd5 : decide (d ≤ i1) = true := decide_eq_true (by omega)
  have hd6 : decide (d ≤ i2) = true := decide_eq_true (by omega)
  clear hcol hL hPe hi1e hi2e hd r3 al hper hP2 hP1 ll lc
  go_enter Tryd.func8, Tryd.ntmps8
  go_wp2_with fail
  have hr := h.below hX
  have hq1 := hu1.below hX
  have hq2 := hu2.below hX
  have hTX := hT.on hX
  generalize w.alloc (.cells #[.slice A m.length cap] 24) = X at *
  have hlt := World.block_lt_of_cell? _ _ hbx
  refine (tValid_bool _ m true _ hr hv).mono ?_
  rintro e w1 ⟨rfl, h1⟩
  have c1 := (h1.cell (p := ⟨w.heap.size, 0, none⟩) hlt).trans hbx
  go_wp2_with fail
  refine (Connected_two _ m true _ (hr.below h1) hv (hid hc)).mono ?_
  rintro e w2 ⟨rfl, h2⟩
  have B2 := btr h1 h2
  have c2 := (B2.cell (p := ⟨w.heap.size, 0, none⟩) hlt).trans hbx
  go_wp2_with fail
  refine (Road_err _ m d 0 4 _ (hr.below B2) (.inl ⟨hc, hv, by rw [Hd.out], rfl⟩) (.inr ⟨rfl, by omega, rfl⟩)).mono ?_
  rintro e w3 ⟨rfl, h3⟩
  have B3 := btr B2 (bal h3 (.cells #[.slice none 0 0] 24))
  have c3 := (B3.cell (p := ⟨w.heap.size, 0, none⟩) hlt).trans hbx
  clear c1 c2 h1 h2 B2 h3
  go_wp2_with fail
  refine (Period_any _ m d 0 _ (hr.below B3) (.inl ⟨hc, hv, by rw [Hd.out], rfl⟩)).mono ?_
  rintro e w4 ⟨rfl, h4⟩
  have B4 := btr B3 h4
  have c4 := (B4.cell (p := ⟨w.heap.size, 0, none⟩) hlt).trans hbx
  clear c3 B3 h4
  go_wp2_with fail
  refine (Hcol.out _ (hr.below B4) (hq1.below B4) hv).mono ?_
  rintro e w5 ⟨r5, rfl, hMR, h5⟩
  have hRL : Rows w5 r5 L := hMR.rows (by rw [Ln.out]; exact hml)
  obtain ⟨rA, rn, rc, rfl⟩ := hMR.slice'
  have b5 := bal h5 (.cells #[.slice rA rn rc] 24)
  have q5 := (Boxed.new w5 24 (.slice rA rn rc)).cell
  have hRL5 : Rows (w5.alloc (.cells #[.slice rA rn rc] 24)) (.slice rA rn rc) L := hRL.alloc _
  have B5 := btr B4 b5
  have c5 := (B5.cell (p := ⟨w.heap.size, 0, none⟩) hlt).trans hbx
  clear c4 B4 h5 b5 hRL hMR Hcol
  go_wp2_with fail
  generalize w5.alloc (.cells #[.slice rA rn rc] 24) = Y at *
  generalize w5.heap.size = b13 at *
  have hrY := hr.below B5
  have hqY := hq2.below B5
  have hTY := hTX.on B5
  have B5h := hid B5
  have hcc := hid hc
  clear hr hq1 hq2 hTX hc B5
  go_region_held3 (fun w' => Below Y.heap.size Y w' ∧ w'.cell? ⟨w.heap.size, 0, none⟩ = some (.slice A m.length cap) ∧ w'.cell? ⟨b13, 0, none⟩ = some (.slice rA rn rc)) (exact held_both c5 q5 (by first | exact below_dr Y 1 | assumption)) (first
    | (go_at_call 36; go_must (refine (tColours_any _ (hTY.on kC)).mono ?_; rintro e z4 ⟨rfl, hz4⟩; have kD : Below Y.heap.size Y z4 := btr kC hz4))
    | (go_at_call 38; (refine (tSpread_as _ _ L [] i2 _ (hRL5.below kB) (ints_nil _) lv hwN Hi2).mono ?_; rintro e z3 ⟨rfl, hz3⟩; have kC : Below Y.heap.size Y z3 := btr kB hz3))
    | (go_at_call 38; go_must (refine (tSpread_as _ _ L P i1 _ (hRL5.below kA) hI1 lv hwP Hi1).mono ?_; rintro e z2 ⟨rfl, hz2⟩; have kB : Below Y.heap.size Y z2 := btr kA hz2))
    | (go_at_call 39; go_must (refine (tProper_any _ _ m ul _ (hrY.below (by first | exact below_dr Y 1 | exact Below.refl _ _)) (hqY.below (by first | exact below_dr Y 1 | exact Below.refl _ _)) hv).mono ?_; rw [HP.out]; rintro e z1 ⟨A1, k1, rfl, hn1, hI1, hz1⟩; have kA : Below Y.heap.size Y z1 := btr (by first | exact below_dr Y 1 | exact Below.refl _ _) hz1)))
  go_wp2
  go_ret
  exact ⟨rfl, btr hX (btr B5h.out kD)⟩
end Go.Proofs.YtlpfglkopnmlnaaDoor
namespace Go.Proofs.YtlpfglkopnmlnaaDoor
open Go.RowKit Go.Shelf
set_option maxRecDepth 100000 in
set_option maxHeartbeats 16000000 in
theorem topRoad_one (v u1 u2 : Value) (m : List (List Int)) (tl ul : List Int) (w : World) (hT : Tab w) (h : Rows w v m) (hu1 : Ints w u1 tl) (hu2 : Ints w u2 ul) (hv : validM m = true) (hc : connM m = true) (hp : perM m = 1) :
    Calls Tryd.prog 8 #[.agg #[v], u1, u2] w fun e w' => e = .returned (.bool true) ∧ Below w.heap.size w w' := by
  obtain ⟨p1, p2, p3, p4, -⟩ := valid_parts hv
  obtain ⟨A, cap, rfl, hml, -⟩ := id h
  have hX := bal (Below.refl _ w) (.cells #[.slice A m.length cap] 24)
  have hbx := (Boxed.new w 24 (.slice A m.length cap)).cell
  go_enter Tryd.func8, Tryd.ntmps8
  go_wp2_with fail
  have hr := h.below hX
  have hq2 := hu2.below hX
  have hTX := hT.on hX
  generalize w.alloc (.cells #[.slice A m.length cap] 24) = X at *
  have hlt := World.block_lt_of_cell? _ _ hbx
  refine (tValid_bool _ m true _ hr hv).mono ?_
  rintro e w1 ⟨rfl, h1⟩
  have c1 := (h1.cell (p := ⟨w.heap.size, 0, none⟩) hlt).trans hbx
  go_wp2_with fail
  refine (Connected_two _ m true _ (hr.below h1) hv (hid hc)).mono ?_
  rintro e w2 ⟨rfl, h2⟩
  have B2 := btr h1 h2
  have c2 := (B2.cell (p := ⟨w.heap.size, 0, none⟩) hlt).trans hbx
  go_wp2_with fail
  refine (Road_ok _ m _ (hTX.on B2) (hr.below B2) hv hc hp).mono ?_
  rintro e w3 (hy | ⟨hno, rfl, h3⟩)
  · obtain ⟨r0, u0, M0, he0, _, _, _, ho0, _⟩ := id hy
    obtain ⟨rr, ru, M, rfl, hM1, hM2, hM3, hM4, hM5, hM6, hM7, hM8, h3⟩ := road_yes (e := e) (w' := w3) hv (.inl hy) (by obtain ⟨_, _, M, _, a, b, _⟩ := hy; exact ⟨M, a, b⟩)
    obtain ⟨M1, M2, rfl, -⟩ := id hM4
    obtain ⟨t, ht, hrun⟩ := reset_to hM2 hM3
    have hlets := hM1.lets hv
    have hP1 := properM_all hv ul
    have hP2 := properM_len m ul
    have hsm := hM1.same hv
    have hMl := hM1.1
    rw [hMl] at hM4 ⊢
    rw [← hlets] at hP1
    obtain ⟨P, hPe⟩ : ∃ P, properM m ul = P := ⟨_, rfl⟩
    obtain ⟨R, hR⟩ : ∃ R, resetW M = R := ⟨_, rfl⟩
    rw [hPe] at hP1 hP2
    rw [hR] at hM5 hM6 hM8 hrun
    obtain ⟨gR, cR, rfl, -⟩ := id hM5
    have b3 := bal h3 (.cells #[.slice M1 m.length M2] 24)
    have q3 := (Boxed.new w3 24 (.slice M1 m.length M2)).cell
    have hM4b : Rows (w3.alloc (.cells #[.slice M1 m.length M2] 24)) (.slice M1 m.length M2) M := hM4.alloc _
    have hM5b : Ints (w3.alloc (.cells #[.slice M1 m.length M2] 24)) (.slice gR R.length cR) R := hM5.alloc _
    have hRn : gR = none → cR = 0 := by
      simp only [Ending.returned.injEq, Value.tuple.injEq, Array.mk.injEq, List.cons.injEq] at he0
      rw [← he0.2.1] at ho0
      exact own_nil_room ho0
    have B3 := btr B2 b3
    have c3 := (B3.cell (p := ⟨w.heap.size, 0, none⟩) hlt).trans hbx
    have hcube : m.length * m.length * m.length ≤ 60 * 60 * 60 := Nat.mul_le_mul (Nat.mul_le_mul p2 p2) p2
    have hsq : m.length * m.length ≤ 60 * 60 := Nat.mul_le_mul p2 p2
    have hrb : R.length ≤ 36000 := by omega
    have hs1 : (6 : Int) * R.length ≤ m.length * m.length * m.length - m.length := by
      have e1 : 6 * R.length ≤ m.length * m.length * m.length - m.length := by omega
      have e2 : ((m.length * m.length * m.length : Nat) : Int) = (m.length : Int) * m.length * m.length := by simp
      have e3 : m.length ≤ m.length * m.length * m.length := by
        have := Nat.mul_le_mul (Nat.mul_le_mul p1 p1) (Nat.le_refl m.length)
        omega
      omega
    have hq1 : (m.length : Int) * m.length ≤ 3600 := by
      have e2 : ((m.length * m.length : Nat) : Int) = (m.length : Int) * m.length := by simp
      omega
    have hq0 : 0 ≤ (m.length : Int) * m.length := Int.mul_nonneg (by omega) (by omega)
    have hq2' : (m.length : Int) * m.length * m.length ≤ 216000 := by
      have e2 : ((m.length * m.length * m.length : Nat) : Int) = (m.length : Int) * m.length * m.length := by simp
      omega
    have hq3 : 0 ≤ (m.length : Int) * m.length * m.length := Int.mul_nonneg hq0 (by omega)
    have HPe := hid hPe
    have Hrun := hid hrun
    have HRn := hid hRn
    have HMl := hid hMl
    have hb2 : P.length ≤ 2000 := by omega
    clear hy he0 ho0 hM4 hM5 h3 b3 h1 h2 B2 c1 c2 hrun hRn hcube hsq hPe hR hP2 hM1 hM3 hM7 hMl
    go_wp2_with fail
    generalize w3.alloc (.cells #[.slice M1 m.length M2] 24) = Y at *
    generalize w3.heap.size = b9 at *
    have hl9 := World.block_lt_of_cell? _ _ q3
    have hl0 := World.block_lt_of_cell? _ _ c3
    have hrY := hr.below B3
    have hqY := hq2.below B3
    have hTY := hTX.on B3
    refine (Period_any _ m 1 0 _ hrY (.inl ⟨hc, hv, by rw [hp]; rfl, rfl⟩)).mono ?_
    rintro e y2 ⟨rfl, j2⟩
    have x0 := (j2.cell (p := ⟨w.heap.size, 0, none⟩) hl0).trans c3
    have x9 := (j2.cell (p := ⟨b9, 0, none⟩) hl9).trans q3
    have hry := hid (hrY.below j2)
    have hqy := hid (hqY.below j2)
    have hTy := hTY.on j2
    have hMy := hid (hM4b.below j2)
    have hUy := hid (hM5b.below j2)
    have B4h := hid (btr B3 j2)
    obtain ⟨LJ, hLJ⟩ : ∃ L, [P, R].flatten = L := ⟨_, rfl⟩
    have hj1 : LJ = P ++ R := by rw [← hLJ]; simp
    have hj2 : LJ.length ≤ 50000 := by rw [hj1]; simp only [List.length_append]; omega
    have hRa := isWordM_all hM6
    have hj3 : LJ.all (inB 0 ((letters M : Int) - 1)) = true := by rw [hj1, List.all_append, hP1, hRa]; rfl
    have hj4 : ∀ s, s < M.length → runM M s LJ = t := fun s hs => by
      rw [hj1, runM_append, Hrun.out _ (runM_lt hM2 P s hs hP1)]
    have HJ := hid hLJ
    have Hj3 := hid hj3
    have Hj4 := hid hj4
    have HRa := hid hRa
    have HM6 := hid hM6
    have w1' : IntKind.i64.wrap ((6 : Int) * R.length) = 6 * R.length := IntWalk.i64_in _ (by omega)
    have w2' : IntKind.i64.wrap ((m.length : Int) * m.length) = (m.length : Int) * m.length := IntWalk.i64_in _ (by omega)
    have w3' : IntKind.i64.wrap ((m.length : Int) * m.length * m.length) = (m.length : Int) * m.length * m.length := IntWalk.i64_in _ (by omega)
    have w4' : IntKind.i64.wrap ((m.length : Int) * m.length * m.length - m.length) = (m.length : Int) * m.length * m.length - m.length := IntWalk.i64_in _ (by omega)
    have hd1 : decide ((6 : Int) * R.length ≤ (m.length : Int) * m.length * m.length - m.length) = true := by simp; omega
    clear hj1 hj3 hj4 hLJ hRa c3 q3 hrY hqY hTY hM4b hM5b B3 hr hq2 hTX hP1 hM6 hM8 hbx
    go_wp2_with fail
    go_region_held3 (fun w' => Below y2.heap.size y2 w' ∧ w'.cell? ⟨w.heap.size, 0, none⟩ = some (.slice A m.length cap) ∧ w'.cell? ⟨b9, 0, none⟩ = some (.slice M1 m.length M2)) (exact held_both x0 x9 (by first | exact below_dr y2 1 | exact bal (by assumption) _ | assumption)) (first
      | (go_at_call 36; go_must (refine (tColours_any _ (hTy.on kS)).mono ?_; rintro e z7 ⟨rfl, hz7⟩; have kH : Below y2.heap.size y2 z7 := btr kS hz7))
      | (go_at_call 38; (refine (tSpread_one _ _ M LJ t _ (hMy.out.below kJ) hIJ hM2 Hj3.out ht Hj4.out).mono ?_; rintro e z6 ⟨rfl, hz6⟩; have kS : Below y2.heap.size y2 z6 := btr kJ hz6))
      | (go_at_call 42; go_must (refine (tJoined_any _ 2 _ [P, R] LJ _ (lrows2 (by simp) ⟨A1, k1, rfl, hn1, hI1⟩ ⟨gR, cR, rfl, HRn.out, hUy.out.below kP⟩) HJ.out hj2 (by omega)).mono ?_; rintro e z5 ⟨AJ, kj, rfl, hnJ, hIJ, hz5⟩; have kJ : Below y2.heap.size y2 z5 := btr (bal kP _) hz5))
      | (go_at_call 39; go_must (refine (tProper_any _ _ m ul _ (hry.out.below kW) (hqy.out.below kW) hv).mono ?_; rw [HPe.out]; rintro e z4 ⟨A1, k1, rfl, hn1, hI1, hz4⟩; have kP : Below y2.heap.size y2 z4 := btr kW hz4))
      | (go_at_call 38; go_must (refine (tSpread_one _ _ M R t _ (hMy.out.below kR) (hUy.out.below kR) hM2 HRa.out ht Hrun.out).mono ?_; rintro e z3 ⟨rfl, hz3⟩; have kW : Below y2.heap.size y2 z3 := btr kR hz3))
      | (go_at_call 41; go_must (refine (tRight_any _ _ M R _ (hMy.out.below kA) (hUy.out.below kA) hM2 HM6.out).mono ?_; rintro e z2 ⟨rfl, hz2⟩; have kR : Below y2.heap.size y2 z2 := btr kA hz2))
      | (go_at_call 40; go_must (refine (tAlike_any _ _ m M _ (hry.out.below (by first | exact below_dr y2 1 | exact Below.refl _ _)) (hMy.out.below (by first | exact below_dr y2 1 | exact Below.refl _ _)) hv hM2 hsm).mono ?_; rintro e z1 ⟨rfl, hz1⟩; have kA : Below y2.heap.size y2 z1 := btr (by first | exact below_dr y2 1 | exact Below.refl _ _) hz1)))
    go_wp2
    go_ret
    exact ⟨rfl, btr hX (btr B4h.out kH)⟩
  · have hsz := road_size hv hc hp hno
    obtain ⟨r, hre⟩ : ∃ r, colTo m 1152921504606846976 m.length = r := ⟨_, rfl⟩
    rw [hre] at hsz
    have Hre := hid hre
    have Hsz := hid hsz
    have b3 := bal h3 (.cells #[.slice none 0 0] 24)
    have B3 := btr B2 b3
    have c3 := (B3.cell (p := ⟨w.heap.size, 0, none⟩) hlt).trans hbx
    clear hre hsz hno
    go_wp2_with fail
    generalize w3.alloc (.cells #[.slice none 0 0] 24) = Y at *
    refine (Period_any _ m 1 0 _ (hr.below B3) (.inl ⟨hc, hv, by rw [hp]; rfl, rfl⟩)).mono ?_
    rintro e y2 ⟨rfl, j2⟩
    have N2 := btr B3 j2
    have x0 := (N2.cell (p := ⟨w.heap.size, 0, none⟩) hlt).trans hbx
    cases r with
    | none =>
      have e1 : colN none = 0 := rfl
      have e2 : colE none = 3 := rfl
      go_wp2_with fail
      refine (Colorings_ok _ m none _ (hr.below N2) hv Hre).mono ?_
      rintro e y3 ⟨rfl, j3⟩
      rw [e1, e2]
      have N3 := btr N2 j3
      go_wp2_with fail
      refine (tColours_any _ (hTX.on N3)).mono ?_
      rintro e y4 ⟨rfl, j4⟩
      go_wp2
      go_ret
      exact ⟨rfl, btr hX (btr N3 j4)⟩
    | some c =>
      have hcb := Hsz.out c rfl
      have e1 : colN (some c) = c := rfl
      have e2 : colE (some c) = 0 := rfl
      have hcd : decide ((1000000 : Int) < (c : Int)) = true := decide_eq_true (by omega)
      go_wp2_with fail
      refine (Colorings_ok _ m (some c) _ (hr.below N2) hv Hre).mono ?_
      rintro e y3 ⟨rfl, j3⟩
      rw [e1, e2]
      have N3 := btr N2 j3
      go_wp2_with fail
      refine (tColours_any _ (hTX.on N3)).mono ?_
      rintro e y4 ⟨rfl, j4⟩
      go_wp2
      go_ret
      exact ⟨rfl, btr hX (btr N3 j4)⟩
theorem topRoad_any (v u1 u2 : Value) (m : List (List Int)) (tl ul : List Int) (w : World) (hT : Tab w) (h : Rows w v m) (hu1 : Ints w u1 tl) (hu2 : Ints w u2 ul) :
    Calls Tryd.prog 8 #[.agg #[v], u1, u2] w fun e w' => e = .returned (.bool true) ∧ Below w.heap.size w w' := by
  cases hv : validM m with
  | false => exact topRoad_early v u1 u2 m tl ul w hT h hu1 hu2 (.inl hv)
  | true =>
    cases hc : connM m with
    | false => exact topRoad_early v u1 u2 m tl ul w hT h hu1 hu2 (.inr ⟨hv, hc⟩)
    | true =>
      by_cases hp : perM m = 1
      · exact topRoad_one v u1 u2 m tl ul w hT h hu1 hu2 hv hc hp
      · have := perM_pos hv hc
        exact topRoad_period v u1 u2 m tl ul w hT h hu1 hu2 hv hc (by omega)
end Go.Proofs.YtlpfglkopnmlnaaDoor
