/-
  Texts that the proof of the law stands on: W, V, O2, G4, Y44, U11, U12, U13, U14, U15.
-/
import Derived.Test.YtphpablchlpagaaDoorDaC
import Derived.WalkKit
import Derived.ProofKit
import Derived.OpenShut
import Derived.Deep.DeepHandedRow
import Derived.Deep.DeepWitnessRowRef
import Derived.Lib.LaidTab
import Derived.Lib.LaidIn
import Derived.Lib.ItoaNum
import Derived.WideKeyArgs
import Derived.Test.YtphpablchlpagaaDoorRows
import Derived.Deep.CutRange
import Derived.Deep.RegionHeld3
import Derived.Deep.LoopGhost
import Derived.Deep.RegionHeld
set_option linter.unusedVariables false
set_option linter.unusedSimpArgs false
namespace Go.Proofs.YtphpablchlpagaaDoor
open Go.ChangeShapes Go.WideShapes Go.ChangeAt Go.RowKit
theorem own : ownKnob Tryd.prog.godebug = none := by kernel_rfl
theorem gTab : Tryd.prog.globalNamed "math/bits.deBruijn64tab" = some 0 := by kernel_rfl
theorem gTabType : (Tryd.prog.globals[0]?).map (·.type) = some 106 := by kernel_rfl
theorem cellsTab : Tryd.prog.cellsOf 106 = 64 := by kernel_rfl
theorem cellsU8 : Tryd.prog.cellsOf 5 = 1 := by kernel_rfl
section
variable {H : Type} {enc : TypeId × Value → H}
/-- All arguments read as they did. -/
theorem TrodAll_stays {P : Program} (hl : laidOutB P = true) {W W' : World} {sp : Nat → Bool} : ∀ {ts : List TypeId} {vs : List Value} {ds : List (DataW H)} {ps : List MemPlace},
    (∀ t ∈ ts, P.readableRec t = true ∧ t < P.types.size) → DataW.TrodAll enc P W 0 (fun _ => true) true ts vs ds ps → (∀ x ∈ ps, W.sameAt W' x) → (∀ x ∈ ps, sp x.block = true) → DataW.TrodAll enc P W' 0 sp true ts vs ds ps
  | [], vs, ds, ps, _, h, _, _ => by cases vs <;> cases ds <;> simp_all [DataW.TrodAll]
  | t :: ts, vs, ds, ps, ht, h, hs, hsp => by
    obtain ⟨v, vs', d, ds', p, q, rfl, rfl, rfl, h0, r0⟩ := trodAll_cons h
    exact trodAll_cons_mk (WideElems.Trod_stays hl (ht t (by simp)).1 (ht t (by simp)).2 h0 (fun x hx => hs x (List.mem_append_left _ hx)) (fun x hx => hsp x (List.mem_append_left _ hx)))
      (TrodAll_stays hl (fun u hu => ht u (by simp [hu])) r0 (fun x hx => hs x (List.mem_append_right _ hx)) (fun x hx => hsp x (List.mem_append_right _ hx)))
set_option maxRecDepth 100000 in
/-- An automaton that came in. -/
theorem auto_of {W : World} {base : Nat} {v : Value} {d : DataW H} {p : List MemPlace} (hv : Value.okWide Tryd.prog W .any base 24 v) (h : DataW.Trod enc Tryd.prog W 0 (fun _ => true) true 24 v d p)
    (hw : ∀ n ∈ d.weights Tryd.prog 24, n ≤ reachBytes) : ∃ c m, v = .agg #[c] ∧ Rows W c m := by
  obtain ⟨cs, rfl, hs⟩ := okWide_struct Tryd.underlying24 hv
  rw [cells_auto] at hs
  obtain ⟨c, rfl⟩ : ∃ c, cs = #[c] := by
    match cs, hs with
    | ⟨[c]⟩, _ => exact ⟨c, rfl⟩
  obtain ⟨fuel, hf⟩ := h
  obtain ⟨y0, n, hx, _, h0⟩ := trod_struct1 Tryd.underlying24 hf
  have hd : d = .agg [y0.1] := (Prod.mk.inj hx).1
  subst hd
  obtain ⟨m, hm⟩ := rows_of_trod (fuel := n) (c := c) (x := y0) h0 (fun k hk => hw k (by
    rw [DataW.weights, Tryd.underlying24]
    simp only [List.map_cons, List.map_nil, DataW.weightsEach, List.append_nil]
    exact hk))
  exact ⟨c, m, rfl, hm⟩
set_option maxRecDepth 100000 in
/-- A list of numbers that came in. -/
theorem list_of {W : World} {base : Nat} {v : Value} {d : DataW H} {p : List MemPlace} (hv : Value.okWide Tryd.prog W .any base 34 v) (h : DataW.Trod enc Tryd.prog W 0 (fun _ => true) true 34 v d p)
    (hw : ∀ n ∈ d.weights Tryd.prog 34, n ≤ reachBytes) : ∃ l, Ints W v l := by
  obtain ⟨a, len, cap, rfl⟩ := okWide_slice Tryd.underlying34 hv
  obtain ⟨fuel, hf⟩ := h
  exact ints_of_trod hf hw
set_option maxRecDepth 100000 in
/-- A nil list has no room. -/
theorem list_nil_of {W : World} {base : Nat} {v : Value} {d : DataW H} {p : List MemPlace} (hv : Value.okWide Tryd.prog W .any base 34 v) (h : DataW.Trod enc Tryd.prog W 0 (fun _ => true) true 34 v d p) : ∀ A n c, v = .slice A n c → A = none → c = 0 := by
  obtain ⟨a, len, cap, rfl⟩ := okWide_slice Tryd.underlying34 hv
  obtain ⟨fuel, hf⟩ := h
  rintro A n c hA rfl
  simp only [Value.slice.injEq] at hA
  obtain ⟨rfl, rfl, rfl⟩ := hA
  have hf' : DataW.trod enc Tryd.prog W 0 (fun _ => true) true fuel 34 [.slice none len cap] = some (d, p) := hf
  rcases Go.ChangeShapes.open_ints Tryd.underlying34 Tryd.underlying3 cells_int hf' with ⟨hc, _⟩ | ⟨a, _, _, _, hc, _⟩
  · simp only [List.cons.injEq, Value.slice.injEq] at hc
    exact hc.1.2.2
  · simp at hc
theorem weight_of {P : Program} {ts : List TypeId} {ds : List (DataW H)} (h : (DataW.weightsEach P ts ds).all (· ≤ reachBytes) = true) {j : Nat} {t : TypeId} {d : DataW H} (ht : ts[j]? = some t) (hd : ds[j]? = some d) : ∀ n ∈ d.weights P t, n ≤ reachBytes := by
  intro n hn
  have := List.all_eq_true.1 h _ (DataW.weights_mem_each ht hd n hn)
  simpa using this
end
end Go.Proofs.YtphpablchlpagaaDoor
namespace Go.Proofs.YtphpablchlpagaaDoor
open Go.ChangeShapes Go.WideShapes Go.ChangeAt Go.RowKit
noncomputable def laidWorld2 (os : Os) : World :=
  let w0 := World.holding Tryd.prog os ⟨#[], #[], []⟩
  let put (h : Array Obj) (g : Nat) (cs : Array Value) : Array Obj := h.modify g fun
    | .cells _ t frozen => .cells cs t frozen
    | o => o
  { w0 with heap := put w0.heap 0 (Lib.deBruijn64tab.map fun z : Nat => Value.int .u8 z).toArray }
set_option maxRecDepth 1000000 in
theorem laid_met2 (os : Os) (args : Array Value) : laidMet Tryd.prog Rows.eulerKindsRow.laid ((laidWorld2 os).forCall (fun _ _ => 0) ⟨#[], args, []⟩).memory :=
  (LaidIn.of_run (l := Rows.eulerKindsRow.laid) [0] 8 (by kernel_rfl) (by kernel_rfl) (by kernel_rfl) (by kernel_rfl)).met
/-- The table of the least bit, out of the list. -/
theorem tab_of2 {W : World} (h : laidMetH Tryd.prog Rows.eulerKindsRow.laid W) : Tab W := by
  have h1 : laidMet Tryd.prog Rows.eulerKindsRow.laid W := h
  have h2 : laidMet Tryd.prog (("math/bits.deBruijn64tab", Lib.tabData .u8 (Lib.deBruijn64tab.map fun x : Nat => (x : Int))) :: Rows.eulerKindsRow.laid.drop 1) W := h1
  have h3 := Lib.tabIs_of_head gTab gTabType Tryd.underlying106 Tryd.underlying5 cellsU8 cellsTab h2
  intro j hj
  have h4 := h3.cell gTab j (by rw [List.length_map]; exact hj)
  rw [h4]
  have e : j < Lib.deBruijn64tab.length := hj
  simp [List.getD_eq_getElem?_getD, List.getElem?_eq_getElem e]
end Go.Proofs.YtphpablchlpagaaDoor
namespace Go.Proofs.YtphpablchlpagaaDoor
open Go.RowKit Go.Deep Go.ChangeShapes Go.WideShapes
/-- A slice of slices of ints, where a nil row has no room. -/
def RowsN (w : World) (v : Value) (m : List (List Int)) : Prop :=
  ∃ A cap, v = .slice A m.length cap ∧ m.length ≤ big ∧ ∀ i, i < m.length → ∃ b off Ar c, A = some ⟨b, off, none⟩ ∧ w.cell? ⟨b, off + i, none⟩ = some (.slice Ar (m.getD i []).length c) ∧ Ints w (.slice Ar (m.getD i []).length c) (m.getD i []) ∧ (Ar = none → c = 0)
theorem RowsN.rows {w : World} {v : Value} {m : List (List Int)} (h : RowsN w v m) : Rows w v m := by
  obtain ⟨A, cap, hv, hl, hc⟩ := h
  refine ⟨A, cap, hv, hl, fun i hi => ?_⟩
  obtain ⟨b, off, Ar, c, hA, hcell, hr, _⟩ := hc i hi
  exact ⟨b, off, _, hA, hcell, hr⟩
theorem RowsN.below {w w' : World} {v : Value} {m : List (List Int)} (h : RowsN w v m) (hb : Below w.heap.size w w') : RowsN w' v m := by
  obtain ⟨A, cap, hv, hl, hc⟩ := h
  refine ⟨A, cap, hv, hl, fun i hi => ?_⟩
  obtain ⟨b, off, Ar, c, hA, hcell, hr, hn⟩ := hc i hi
  exact ⟨b, off, Ar, c, hA, (hb.cell (p := ⟨b, off + i, none⟩) (World.block_lt_of_cell? _ _ hcell)).trans hcell, hr.below hb, hn⟩
section
variable {H : Type} {enc : TypeId × Value → H} {W : World} {base : Nat}
end
end Go.Proofs.YtphpablchlpagaaDoor
namespace Go.Proofs.YtphpablchlpagaaDoor
open Go.RowKit Go.Shelf
/-- A list's beginning. -/
theorem Ints.take {w : World} {A : Option Addr} {c : Nat} {l : List Int} (h : Ints w (.slice A l.length c) l) {k : Nat} (hk : k ≤ l.length) (d : Nat) : Ints w (.slice A k d) (l.take k) := by
  obtain ⟨A', c', hv, hl, hc⟩ := h
  simp only [Value.slice.injEq] at hv
  obtain ⟨rfl, -, rfl⟩ := hv
  have hlk : (l.take k).length = k := by simp; omega
  refine ⟨A, d, by rw [hlk], by omega, fun i hi => ?_⟩
  obtain ⟨b, off, hA, hcell⟩ := hc i (by omega)
  refine ⟨b, off, hA, ?_⟩
  rw [hcell]
  congr 2
  simp only [List.getD_eq_getElem?_getD, List.getElem?_take]
  rw [if_pos (by omega)]
end Go.Proofs.YtphpablchlpagaaDoor
namespace Go.Proofs.YtphpablchlpagaaDoor
open Go.RowKit Go.Shelf
/-- The set is where some word leads from all states. -/
def RS (m : List (List Int)) (S : Nat) : Prop := S < 2 ^ m.length ∧ ∃ u : List Int, u.all (inB 0 ((letters m : Int) - 1)) = true ∧ imgWord m (2 ^ m.length - 1) u = S
theorem RS.start (m : List (List Int)) : RS m (2 ^ m.length - 1) := ⟨full_lt m, [], rfl, rfl⟩
theorem RS.word {m : List (List Int)} (hv : validM m = true) {S : Nat} (h : RS m S) {w : List Int} (hw : w.all (inB 0 ((letters m : Int) - 1)) = true) : RS m (imgWord m S w) := by
  obtain ⟨h1, u, h2, h3⟩ := h
  refine ⟨imgWord_lt hv w S h1 hw, u ++ w, by rw [List.all_append, h2, hw]; rfl, by rw [imgWord_append, h3]⟩
/-- No two states of the set are merged. -/
def NoMg (m : List (List Int)) (S : Nat) : Prop := ∀ p q, p ∈ elems S → q ∈ elems S → p ≠ q → mlen m p q = -1
theorem mem_of_testBit {S n s : Nat} (hS : S < 2 ^ n) (hn : n ≤ 64) : s ∈ elems S ↔ S.testBit s = true := by
  rw [mem_elems]
  constructor
  · exact fun h => h.2
  · refine fun h => ⟨?_, h⟩
    rcases Nat.lt_or_ge s 64 with h1 | h1
    · exact h1
    · have : 2 ^ n ≤ 2 ^ s := Nat.pow_le_pow_right (by decide) (by omega)
      rw [Nat.testBit_lt_two_pow (by omega)] at h; cases h
theorem setM_elems (S : Nat) : (intsOf (elems S)).length = (elems S).length := by simp [intsOf]
/-- No pair of the first i states is merged. -/
def NoTo (m : List (List Int)) (S i : Nat) : Prop := ∀ a b, b < a → a < i → mlen m ((elems S).getD a 0) ((elems S).getD b 0) = -1
theorem NoTo.all {m : List (List Int)} (hv : validM m = true) {S : Nat} (hS : S < 2 ^ m.length) (h : NoTo m S (elems S).length) : NoMg m S := by
  intro p q hp hq hpq
  obtain ⟨i, hi, rfl⟩ := List.mem_iff_getElem.1 hp
  obtain ⟨k, hk, rfl⟩ := List.mem_iff_getElem.1 hq
  have e : ∀ a (ha : a < (elems S).length), (elems S).getD a 0 = (elems S)[a] := fun a ha => by simp [List.getD_eq_getElem?_getD, List.getElem?_eq_getElem ha]
  rcases Nat.lt_trichotomy i k with h1 | h1 | h1
  · have := h k i h1 hk
    rw [e, e] at this
    rw [mlen_symm hv (elems_lt hS hp) (elems_lt hS hq)]; exact this
  · subst h1; exact absurd rfl hpq
  · have := h i k h1 hi
    rw [e, e] at this
    exact this
end Go.Proofs.YtphpablchlpagaaDoor
namespace Go.Proofs.YtphpablchlpagaaDoor
open Go.RowKit Go.Shelf
theorem row_sum {m : List (List Int)} (hv : validM m = true) {s : Nat} (hs : s < m.length) (t : Nat) : ∀ y, y ≤ letters m → (timesL (flatTo m s y) (t : Int) : Int) = timesL (flatTo m s 0) (t : Int) + sumI (fun x => if roadsE m s x = t then 1 else 0) y
  | 0, _ => by simp [sumI]
  | y + 1, hy => by
    have hl := ((valid_parts hv).2.2.2.2 s hs).1
    have hn := (nx_ok hv hs (x := (y : Int)) (by omega) (by omega)).2
    rw [Int.toNat_natCast] at hn
    rw [flatTo_next (by omega), timesL_snocU, hn]
    have ih := row_sum hv hs t y (by omega)
    show _ = (timesL (flatTo m s 0) (t : Int) : Int) + (sumI (fun x => if roadsE m s x = t then 1 else 0) y + (if roadsE m s y = t then 1 else 0))
    have e : roadsE m s y = nx m s (y : Int) := rfl
    rw [e]
    by_cases h : nx m s (y : Int) = t
    · rw [if_pos h, if_pos (by omega)]; omega
    · rw [if_neg h, if_neg (by omega)]; omega
theorem all_sum {m : List (List Int)} (hv : validM m = true) (t : Nat) : ∀ s, s ≤ m.length → (timesL (flatTo m s 0) (t : Int) : Int) = sumI (fun q => sumI (fun x => if roadsE m q x = t then 1 else 0) (letters m)) s
  | 0, _ => by simp [flatTo, timesL, sumI]
  | s + 1, hs => by
    have hl := ((valid_parts hv).2.2.2.2 s (by omega)).1
    rw [flatTo_row (by omega) hl, row_sum hv (by omega) t _ (Nat.le_refl _), all_sum hv t s (by omega)]
    rfl
theorem inR_times {m : List (List Int)} (hv : validM m = true) (t : Nat) : inR m t = timesL m.flatten (t : Int) := by
  rw [← flatTo_end, all_sum hv t _ (Nat.le_refl _)]; rfl
theorem eulB_eulM {m : List (List Int)} (hv : validM m = true) : eulB m = true ↔ eulM m := by
  rw [eulB_iff]
  constructor
  · intro h t ht
    rw [inR_times hv, h t ht]
  · intro h t ht
    have := h t ht
    rw [inR_times hv] at this
    omega
/-- Where one letter leads from state 0. -/
def itM (m : List (List Int)) (x : Int) : Nat → Nat
  | 0 => 0
  | i + 1 => nx m (itM m x i) x
def seenM (m : List (List Int)) (x : Int) : Nat → Nat
  | 0 => 0
  | i + 1 => seenM m x i ||| 2 ^ itM m x i
def cycB (m : List (List Int)) (x : Int) : Bool := (itM m x m.length == 0) && (seenM m x m.length == 2 ^ m.length - 1)
theorem itM_lt {m : List (List Int)} (hv : validM m = true) {x : Nat} (hx : x < letters m) : ∀ i, itM m (x : Int) i < m.length
  | 0 => (valid_parts hv).1
  | i + 1 => (nx_ok hv (itM_lt hv hx i) (by omega) (by omega)).1
theorem seenM_lt {m : List (List Int)} (hv : validM m = true) {x : Nat} (hx : x < letters m) : ∀ i, seenM m (x : Int) i < 2 ^ m.length
  | 0 => Nat.two_pow_pos _
  | i + 1 => Nat.or_lt_two_pow (seenM_lt hv hx i) (Nat.pow_lt_pow_right (by decide) (itM_lt hv hx i))
end Go.Proofs.YtphpablchlpagaaDoor
namespace Go.Proofs.YtphpablchlpagaaDoor
open Go.RowKit Go.Shelf
set_option maxRecDepth 100000 in
set_option maxHeartbeats 4000000 in
theorem cycles_any (v : Value) (m : List (List Int)) (x : Nat) (w : World) (h : Rows w v m) (hv : validM m = true) (hx : x < letters m) :
    Calls Tryd.prog 33 #[.agg #[v], .int .i64 x] w fun e w' => e = .returned (.bool (cycB m x)) ∧ Below w.heap.size w w' := by
  obtain ⟨p1, p2, p3, p4, p5⟩ := valid_parts hv
  obtain ⟨A, cap, rfl, hml, hc⟩ := id h
  unfold big at hml
  have hX := bal (Below.refl _ w) (.cells #[.slice A m.length cap] 24)
  have hbx : (w.alloc (.cells #[.slice A m.length cap] 24)).cell? ⟨w.heap.size, 0, none⟩ = some (.slice A m.length cap) := by simp [go_sem]
  have Hc := hid hc
  clear hc
  have hpow : 2 ^ m.length ≤ 2 ^ 60 := Nat.pow_le_pow_right (by decide) p2
  have Hpow := hid hpow
  clear hpow
  go_enter Tryd.func33, Tryd.ntmps33
  go_wp2_with fail
  go_loopw [5, 6, 10] (fun S' s' iv wr => ∃ i : Nat, i ≤ m.length ∧ iv = .int .i64 i ∧ S' = .int .u64 (seenM m x i : Nat) ∧ s' = .int .i64 (itM m x i : Nat) ∧ Below w.heap.size w wr ∧ wr.cell? ⟨w.heap.size, 0, none⟩ = some (.slice A m.length cap)) (fun _ _ iv _ => m.length - (intOf iv).toNat)
  case atStart => exact ⟨0, Nat.zero_le _, rfl, rfl, rfl, hX, hbx⟩
  case round =>
    clear hX hbx
    obtain ⟨i, hi, rfl, rfl, rfl, hB, hbx⟩ := hrel
    have hs := itM_lt hv hx i
    have hS := seenM_lt hv hx i
    have hS64 : seenM m x i < 2 ^ 64 := by have := Hpow.out; omega
    by_cases hlt : i < m.length
    · have hii : (i : Int) < m.length := by omega
      have hid' : decide (i < m.length) = true := decide_eq_true hlt
      have hn1 : seenM m x (i + 1) = seenM m x i ||| 2 ^ itM m x i := rfl
      have hn2 : itM m x (i + 1) = nx m (itM m x i) x := rfl
      have Hn1 := hid hn1
      have Hn2 := hid hn2
      clear hn1 hn2
      generalize seenM m x i = S at *
      generalize itM m x i = s at *
      obtain ⟨b, off, r, hA, hcell, hI⟩ := Hc.out s hs
      subst hA
      obtain ⟨As, caps, rfl, hls, hcs⟩ := hI
      have hrl := (p5 s hs).1
      obtain ⟨bs, offs, hAs, hce⟩ := hcs x (by omega)
      subst hAs
      obtain ⟨n1, n2⟩ := nx_ok hv hs (x := (x : Int)) (by omega) (by omega)
      rw [Int.toNat_natCast] at n2
      rw [n2] at hce
      rw [hrl] at hcell
      obtain ⟨q, hq⟩ : ∃ q, nx m s (x : Int) = q := ⟨_, rfl⟩
      rw [hq] at hce
      have Hq := hid hq
      have hcell' := (hB.cell (p := ⟨b, off + s, none⟩) (World.block_lt_of_cell? _ _ hcell)).trans hcell
      have hce' := (hB.cell (p := ⟨bs, offs + x, none⟩) (World.block_lt_of_cell? _ _ hce)).trans hce
      have hss : (s : Int) < m.length := by omega
      have hxx : (x : Int) < letters m := by omega
      clear hcell hce hcs hls hrl hq n2
      go_wp2_with (go_at_call 59; refine (With_any S s _ hS64 (by omega)).mono ?_; rintro e w' ⟨rfl, rfl⟩)
      go_roundw
      case rel => exact ⟨i + 1, by omega, by go_num, by rw [Hn1.out], by rw [Hn2.out, Hq.out], hB, hbx⟩
      case measure => simp [intOf]; omega
    · have hii : ¬ (i : Int) < m.length := by omega
      have hid' : decide (i < m.length) = false := decide_eq_false hlt
      obtain rfl : i = m.length := by omega
      obtain ⟨a, ha⟩ : ∃ a, itM m x m.length = a := ⟨_, rfl⟩
      obtain ⟨S, hS'⟩ : ∃ a, seenM m x m.length = a := ⟨_, rfl⟩
      have hcy : cycB m x = ((a == 0) && (S == 2 ^ m.length - 1)) := by unfold cycB; rw [ha, hS']
      rw [ha, hS'] at *
      have Hcy := hid hcy
      clear ha hS' hcy
      obtain ⟨N, hN⟩ : ∃ N, 2 ^ m.length - 1 = N := ⟨_, rfl⟩
      have HBl := hid (fun W : World => (show Calls Tryd.prog 47 #[.int .i64 m.length] W fun e w' => e = .returned (.int .u64 (N : Nat)) ∧ W = w' from by rw [← hN]; exact Below_any m.length W p2))
      rw [hN] at Hcy
      clear hN
      by_cases a0 : a = 0
      · subst a0
        by_cases s0 : S = N
        · subst s0
          go_wp2_with (go_at_call 47; refine (HBl.out _).mono ?_; rintro e w' ⟨rfl, rfl⟩)
          go_ret
          rw [Hcy.out]
          exact ⟨by simp, hB⟩
        · have s1 : ¬ (S : Int) = N := by omega
          have s2 : ((S : Int) == N) = false := beq_eq_false_iff_ne.2 s1
          have s3 : (S == N) = false := by simpa using s0
          go_wp2_with (go_at_call 47; refine (HBl.out _).mono ?_; rintro e w' ⟨rfl, rfl⟩)
          go_ret
          rw [Hcy.out]
          exact ⟨by simp [s3], hB⟩
      · have a1 : ¬ (a : Int) = 0 := by omega
        have a2 : ((a : Int) == 0) = false := beq_eq_false_iff_ne.2 a1
        have a3 : (a == 0) = false := by simpa using a0
        go_wp2_with (go_at_call 47; refine (HBl.out _).mono ?_; rintro e w' ⟨rfl, rfl⟩)
        go_ret
        rw [Hcy.out]
        exact ⟨by simp [a3], hB⟩
theorem cycles_bool (v : Value) (m : List (List Int)) (x : Nat) (b : Bool) (w : World) (h : Rows w v m) (hv : validM m = true) (hx : x < letters m) (hb : cycB m x = b) :
    Calls Tryd.prog 33 #[.agg #[v], .int .i64 x] w fun e w' => e = .returned (.bool b) ∧ Below w.heap.size w w' := by
  rw [← hb]; exact cycles_any v m x w h hv hx
theorem Eulerian_ok (v : Value) (m : List (List Int)) (b : Bool) (w : World) (h : Rows w v m) (hv : validM m = true) (hb : eulB m = b) :
    Calls Tryd.prog 9 #[.agg #[v]] w fun e w' => e = .returned (.tuple #[.bool b, .int .i64 0]) ∧ Below w.heap.size w w' := by
  have hr := h
  obtain ⟨A, cap, rfl, hml, hc⟩ := h
  clear hc
  have hX := bal (Below.refl _ w) (.cells #[.slice A m.length cap] 24)
  have hbx : (w.alloc (.cells #[.slice A m.length cap] 24)).cell? ⟨w.heap.size, 0, none⟩ = some (.slice A m.length cap) := by simp [go_sem]
  have Hb := hid hb
  clear hb
  go_enter Tryd.func9, Tryd.ntmps9
  go_wp2_with fail
  refine (Valid_bool _ m true _ (hr.below hX) hv).mono ?_
  rintro e w1 ⟨rfl, hb1⟩
  have hbx1 := (hb1.cell (p := ⟨w.heap.size, 0, none⟩) (World.block_lt_of_cell? _ _ hbx)).trans hbx
  have hr1 := hr.below (btr hX hb1)
  go_wp2_with fail
  refine (eulerian_any _ m _ hr1 hv).mono ?_
  rintro e w2 ⟨rfl, hb2⟩
  rw [Hb.out]
  go_wp2_with fail
  go_ret2
  exact ⟨rfl, btr (btr hX hb1) hb2⟩
/-- What Circular returns. -/
def CircIs (m : List (List Int)) (x : Nat) (c : Int) : Prop :=
  (x < letters m ∧ cycB m (x : Int) = true ∧ (∀ y : Nat, y < x → cycB m (y : Int) = false) ∧ c = 0) ∨ ((∀ y : Nat, y < letters m → cycB m (y : Int) = false) ∧ x = 0 ∧ c = 4)
theorem Circular_ok (v : Value) (m : List (List Int)) (w : World) (h : Rows w v m) (hv : validM m = true) :
    Calls Tryd.prog 10 #[.agg #[v]] w fun e w' => ∃ (x : Nat) (c : Int), e = .returned (.tuple #[.int .i64 x, .int .i64 c]) ∧ CircIs m x c ∧ Below w.heap.size w w' := by
  obtain ⟨p1, p2, p3, p4, p5⟩ := valid_parts hv
  have hr := h
  obtain ⟨A, cap, rfl, hml, hc⟩ := h
  obtain ⟨b0, off0, r0, hA, hc0, A0, cap0, hr0, -, -⟩ := hc 0 (by omega)
  subst hA
  subst hr0
  have hc0 : w.cell? ⟨b0, off0, none⟩ = some (.slice A0 (letters m) cap0) := hc0
  clear hc
  have hX := bal (Below.refl _ w) (.cells #[.slice (some ⟨b0, off0, none⟩) m.length cap] 24)
  have hbx : (w.alloc (.cells #[.slice (some ⟨b0, off0, none⟩) m.length cap] 24)).cell? ⟨w.heap.size, 0, none⟩ = some (.slice (some ⟨b0, off0, none⟩) m.length cap) := by simp [go_sem]
  go_enter Tryd.func10, Tryd.ntmps10
  go_wp2_with fail
  refine (Valid_bool _ m true _ (hr.below hX) hv).mono ?_
  rintro e w1 ⟨rfl, hb1⟩
  have hbx1 := (hb1.cell (p := ⟨w.heap.size, 0, none⟩) (World.block_lt_of_cell? _ _ hbx)).trans hbx
  have hB1 := btr hX hb1
  have hc1 := (hB1.cell (p := ⟨b0, off0, none⟩) (World.block_lt_of_cell? _ _ hc0)).trans hc0
  clear hbx hX hb1
  go_wp2_with fail
  go_loopw [13] (fun xv wr => ∃ x : Nat, x ≤ letters m ∧ xv = .int .i64 x ∧ (∀ y : Nat, y < x → cycB m (y : Int) = false) ∧ Below w.heap.size w wr ∧ wr.cell? ⟨w.heap.size, 0, none⟩ = some (.slice (some ⟨b0, off0, none⟩) m.length cap)) (fun xv _ => letters m - (intOf xv).toNat)
  case atStart => exact ⟨0, Nat.zero_le _, rfl, fun y h => by omega, hB1, hbx1⟩
  case round =>
    clear hB1 hbx1 hc1
    obtain ⟨x, hx, rfl, hpre, hB, hbx⟩ := hrel
    have Hpre := hid hpre
    clear hpre
    by_cases hlt : x < letters m
    · have hxx : (x : Int) < letters m := by omega
      have hxd : decide (x < letters m) = true := decide_eq_true hlt
      have hrr := hr.below hB
      cases hcy : cycB m (x : Int) with
      | true =>
        have Hcy := hid hcy
        go_wp2_with fail
        refine (cycles_bool _ m x true _ hrr hv hlt Hcy.out).mono ?_
        rintro e w2 ⟨rfl, hb2⟩
        clear hcy
        go_wp2_with fail
        go_ret2
        exact ⟨x, 0, rfl, .inl ⟨hlt, Hcy.out, Hpre.out, rfl⟩, btr hB hb2⟩
      | false =>
        have Hcy := hid hcy
        go_wp2_with fail
        refine (cycles_bool _ m x false _ hrr hv hlt Hcy.out).mono ?_
        rintro e w2 ⟨rfl, hb2⟩
        have hbx2 := (hb2.cell (p := ⟨w.heap.size, 0, none⟩) (World.block_lt_of_cell? _ _ hbx)).trans hbx
        clear hcy
        go_wp2_with fail
        go_roundw
        case rel => exact ⟨x + 1, by omega, by go_num, fun y hy => by
          by_cases e : y = x
          · subst e; exact Hcy.out
          · exact Hpre.out y (by omega), btr hB hb2, hbx2⟩
        case measure => simp [intOf]; omega
    · have hxx : ¬ (x : Int) < letters m := by omega
      have hxd : decide (x < letters m) = false := decide_eq_false hlt
      obtain rfl : x = letters m := by omega
      go_wp2_with fail
      go_ret2
      exact ⟨0, 4, rfl, .inr ⟨Hpre.out, rfl, rfl⟩, hB⟩
end Go.Proofs.YtphpablchlpagaaDoor
namespace Go.Proofs.YtphpablchlpagaaDoor
open Go.RowKit Go.Shelf
def circB (m : List (List Int)) : Bool := (List.range (letters m)).any fun y : Nat => cycB m (y : Int)
theorem CircIs.zero {m : List (List Int)} {x : Nat} {c : Int} (h : CircIs m x c) : (c == 0) = circB m := by
  rcases h with ⟨h1, h2, -, rfl⟩ | ⟨h1, -, rfl⟩
  · have : circB m = true := List.any_eq_true.2 ⟨x, List.mem_range.2 h1, h2⟩
    rw [this]; rfl
  · have : circB m = false := by
      unfold circB
      rw [List.any_eq_false]
      exact fun y hy => by rw [h1 y (List.mem_range.1 hy)]; simp
    rw [this]; rfl
theorem circular_any (v : Value) (m : List (List Int)) (b : Bool) (w : World) (h : Rows w v m) (hv : validM m = true) (hb : circB m = b) :
    Calls Tryd.prog 61 #[.agg #[v]] w fun e w' => e = .returned (.bool b) ∧ Below w.heap.size w w' := by
  have hr := h
  obtain ⟨A, cap, rfl, hml, hc⟩ := h
  clear hc
  have hX := bal (Below.refl _ w) (.cells #[.slice A m.length cap] 24)
  have hbx : (w.alloc (.cells #[.slice A m.length cap] 24)).cell? ⟨w.heap.size, 0, none⟩ = some (.slice A m.length cap) := by simp [go_sem]
  have Hb := hid hb
  clear hb
  go_enter Tryd.func61, Tryd.ntmps61
  go_wp2_with fail
  refine (Circular_ok _ m _ (hr.below hX) hv).mono ?_
  rintro e w1 ⟨x, c, rfl, hC, hb1⟩
  have hcz := hC.zero
  rw [Hb.out] at hcz
  have HC := hid hC
  clear hC
  cases b with
  | true =>
    obtain rfl : c = 0 := by simpa using hcz
    go_wp2_with fail
    go_ret
    exact ⟨rfl, btr hX hb1⟩
  | false =>
    have hc0 : ¬ c = 0 := by simpa using hcz
    go_wp2_with fail
    go_ret
    exact ⟨rfl, btr hX hb1⟩
theorem holds3_any (v : Value) (w : World) :
    Calls Tryd.prog 63 #[.agg #[v]] w fun e w' => e = .returned (.bool true) ∧ Below w.heap.size w w' := by
  have hX := bal (Below.refl _ w) (.cells #[v] 24)
  go_enter Tryd.func63, Tryd.ntmps63
  go_wp2_with fail
  go_ret
  exact ⟨rfl, hX⟩
theorem sq_le {n : Nat} (hn : n ≤ 60) : (n : Int) * n ≤ 3600 ∧ 0 ≤ (n : Int) * n := by
  have h1 : n * n ≤ 60 * 60 := Nat.mul_le_mul hn hn
  have e : (n : Int) * n = ((n * n : Nat) : Int) := by simp
  rw [e]; omega
theorem let1_any (n : Nat) (w : World) (hn : n ≤ 60) :
    Calls Tryd.prog 60 #[.int .i64 n] w fun e w' => e = .returned (.int .i64 ((n : Int) * n - 3 * n + 3)) ∧ w' = w := by
  have h := sq_le hn
  have h1 : IntKind.i64.wrap ((n : Int) * n) = (n : Int) * n := IntWalk.i64_in _ (by omega)
  have h2 : IntKind.i64.wrap ((n : Int) * n - 3 * n) = (n : Int) * n - 3 * n := IntWalk.i64_in _ (by omega)
  have h3 : IntKind.i64.wrap ((n : Int) * n - 3 * n + 3) = (n : Int) * n - 3 * n + 3 := IntWalk.i64_in _ (by omega)
  go_enter Tryd.func60, Tryd.ntmps60
  go_wp2_with fail
  go_ret
  exact ⟨rfl, rfl⟩
theorem let2_any (n : Nat) (w : World) (h1 : 1 ≤ n) (hn : n ≤ 60) :
    Calls Tryd.prog 62 #[.int .i64 n] w fun e w' => e = .returned (.int .i64 (((n : Int) - 1) * (n - 1))) ∧ w' = w := by
  obtain ⟨k, rfl⟩ : ∃ k, n = k + 1 := ⟨n - 1, by omega⟩
  have h := sq_le (n := k) (by omega)
  have e0 : ((k + 1 : Nat) : Int) - 1 = k := by omega
  rw [e0]
  have h1 : IntKind.i64.wrap ((k : Int) * k) = (k : Int) * k := IntWalk.i64_in _ (by omega)
  have h2 : IntKind.i64.wrap (((k + 1 : Nat) : Int) - 1) = k := by rw [e0]; exact IntWalk.i64_in _ (by omega)
  generalize hq : (k : Int) * k = q at *
  go_enter Tryd.func62, Tryd.ntmps62
  go_wp2_with fail
  go_ret
  exact ⟨by simp, rfl⟩
theorem let4_any (n : Nat) (w : World) (h1 : 1 ≤ n) (hn : n ≤ 60) :
    Calls Tryd.prog 64 #[.int .i64 n] w fun e w' => e = .returned (.int .i64 (((n * n * n - n) / 6 : Nat) : Int)) ∧ w' = w := by
  have h := sq_le hn
  have hc : n * n * n ≤ 60 * 60 * 60 := Nat.mul_le_mul (Nat.mul_le_mul hn hn) hn
  have hge : n ≤ n * n * n := by
    have := Nat.mul_le_mul (Nat.mul_le_mul h1 h1) (Nat.le_refl n)
    simpa using this
  obtain ⟨q, hq⟩ : ∃ q, n * n * n = q := ⟨_, rfl⟩
  have hq2 : (n : Int) * n * n = (q : Int) := by rw [← hq]; simp
  rw [hq] at hc hge
  rw [show (n * n * n - n) / 6 = (q - n) / 6 by rw [hq]]
  have w1 : IntKind.i64.wrap ((n : Int) * n) = (n : Int) * n := IntWalk.i64_in _ (by omega)
  have w2 : IntKind.i64.wrap ((n : Int) * n * n) = (q : Int) := by rw [hq2]; exact IntWalk.i64_in _ (by omega)
  have hqq := hid hq
  clear hq
  go_enter Tryd.func64, Tryd.ntmps64
  go_wp2_with fail
  go_ret
  refine ⟨?_, rfl⟩
  rw [show (((q - n) / 6 : Nat) : Int) = ((q : Int) - n) / 6 by omega]
  rfl
theorem bounds_any (w : World) :
    Calls Tryd.prog 35 #[] w fun e w' => e = .returned (.slice (some ⟨w.heap.size, 0, none⟩) 3 3) ∧ Below w.heap.size w w' ∧
      w'.cell? ⟨w.heap.size, 0, none⟩ = some (.func (.func 32) #[] #[]) ∧ w'.cell? ⟨w.heap.size, 1, none⟩ = some (.func (.func 60) #[] #[]) ∧
      w'.cell? ⟨w.heap.size, 2, none⟩ = some (.func (.func 61) #[] #[]) ∧ w'.cell? ⟨w.heap.size, 3, none⟩ = some (.func (.func 62) #[] #[]) ∧
      w'.cell? ⟨w.heap.size, 4, none⟩ = some (.func (.func 63) #[] #[]) ∧ w'.cell? ⟨w.heap.size, 5, none⟩ = some (.func (.func 64) #[] #[]) := by
  go_enter Tryd.func35, Tryd.ntmps35
  go_wp2_with fail
  go_ret
  refine ⟨rfl, bal (Below.refl _ w) _, ?_, ?_, ?_, ?_, ?_, ?_⟩
  all_goals simp [go_sem]
theorem eulerian_bool (v : Value) (m : List (List Int)) (b : Bool) (w : World) (h : Rows w v m) (hv : validM m = true) (hb : eulB m = b) :
    Calls Tryd.prog 32 #[.agg #[v]] w fun e w' => e = .returned (.bool b) ∧ Below w.heap.size w w' := by
  rw [← hb]; exact eulerian_any v m w h hv
def lenV : Value → Nat
  | .slice _ n _ => n
  | _ => 0
/-- How many letters suffice. -/
def bndM (m : List (List Int)) : Int := if eulB m = true then (m.length : Int) * m.length - 3 * m.length + 3 else if circB m = true then ((m.length : Int) - 1) * (m.length - 1) else (((m.length * m.length * m.length - m.length) / 6 : Nat) : Int)
def BoundRes (w : World) (x c : Int) (e : Ending) (w' : World) : Prop := e = .returned (.tuple #[.int .i64 x, .int .i64 c]) ∧ Below w.heap.size w w'
theorem Bound_none (v : Value) (m : List (List Int)) (w : World) (h : Rows w v m) (hv : validM m = true) (hno : ¬ allMerge m) :
    Calls Tryd.prog 11 #[.agg #[v]] w (BoundRes w 0 4) := by
  have hr := h
  obtain ⟨A, cap, rfl, hml, hc⟩ := h
  clear hc
  have hX := bal (Below.refl _ w) (.cells #[.slice A m.length cap] 24)
  have hbx : (w.alloc (.cells #[.slice A m.length cap] 24)).cell? ⟨w.heap.size, 0, none⟩ = some (.slice A m.length cap) := by simp [go_sem]
  have hne : (apartL m).length ≠ 0 := fun e => hno ((apartL_nil hv).1 (List.eq_nil_of_length_eq_zero e))
  have HP := hid (fun W hW => Apart_ok (.slice A m.length cap) m W hW hv)
  generalize apartL m = L at *
  have d1 : (0 : Int) < L.length := by omega
  have d2 : decide ((0 : Int) < L.length) = true := decide_eq_true d1
  have d3 : decide (0 < L.length) = true := decide_eq_true (by omega)
  go_enter Tryd.func11, Tryd.ntmps11
  go_wp2_with fail
  refine (HP.out _ (hr.below hX)).mono ?_
  rintro e w1 ⟨r, rfl, ho, hb1⟩
  obtain ⟨A4, c4, rfl⟩ := ownsRow_slice ho
  clear ho
  go_wp2_with fail
  go_ret2
  exact ⟨rfl, btr hX hb1⟩
set_option maxRecDepth 100000 in
set_option maxHeartbeats 8000000 in
theorem Bound_ok (v : Value) (m : List (List Int)) (w : World) (h : Rows w v m) (hv : validM m = true) (hall : allMerge m) :
    Calls Tryd.prog 11 #[.agg #[v]] w (BoundRes w (bndM m) 0) := by
  obtain ⟨p1, p2, -⟩ := valid_parts hv
  have hr := h
  obtain ⟨A, cap, rfl, hml, hc⟩ := h
  clear hc
  have hX := bal (Below.refl _ w) (.cells #[.slice A m.length cap] 24)
  have hbx : (w.alloc (.cells #[.slice A m.length cap] 24)).cell? ⟨w.heap.size, 0, none⟩ = some (.slice A m.length cap) := by simp [go_sem]
  have HP := hid (fun W hW => by
    have := Apart_ok (.slice A m.length cap) m W hW hv
    rw [(apartL_nil hv).2 hall] at this
    exact this)
  go_enter Tryd.func11, Tryd.ntmps11
  go_wp2_with fail
  refine (HP.out _ (hr.below hX)).mono ?_
  rintro e w1 ⟨r, rfl, ho, hb1⟩
  obtain ⟨A4, c4, rfl⟩ := ownsRow_slice ho
  have hbx1 := (hb1.cell (p := ⟨w.heap.size, 0, none⟩) (World.block_lt_of_cell? _ _ hbx)).trans hbx
  have hB1 := btr hX hb1
  clear ho hbx hX hb1
  go_wp2_with fail
  refine (bounds_any _).mono ?_
  rintro e w2 ⟨rfl, hb2, c0, c1, c2, c3, c4, c5⟩
  have hbx2 := (hb2.cell (p := ⟨w.heap.size, 0, none⟩) (World.block_lt_of_cell? _ _ hbx1)).trans hbx1
  have hB2 := btr hB1 hb2
  have hB0 := hB1.size
  generalize w1.heap.size = B at *
  clear hbx1 hB1 hb2
  go_wp2_with fail
  go_loopw [6] (fun lv wr => (lv = .slice (some ⟨B, 0, none⟩) 3 3 ∨ (eulB m = false ∧ lv = .slice (some ⟨B, 2, none⟩) 2 2) ∨ (eulB m = false ∧ circB m = false ∧ lv = .slice (some ⟨B, 4, none⟩) 1 1)) ∧ Below w2.heap.size w2 wr) (fun lv _ => lenV lv)
  case atStart => exact ⟨.inl rfl, Below.refl _ _⟩
  case round =>
    obtain ⟨hk, hB⟩ := hrel
    have hbx := (hB.cell (p := ⟨w.heap.size, 0, none⟩) (World.block_lt_of_cell? _ _ hbx2)).trans hbx2
    have q0 := (hB.cell (p := ⟨B, 0, none⟩) (World.block_lt_of_cell? _ _ c0)).trans c0
    have q1 := (hB.cell (p := ⟨B, 1, none⟩) (World.block_lt_of_cell? _ _ c1)).trans c1
    have q2 := (hB.cell (p := ⟨B, 2, none⟩) (World.block_lt_of_cell? _ _ c2)).trans c2
    have q3 := (hB.cell (p := ⟨B, 3, none⟩) (World.block_lt_of_cell? _ _ c3)).trans c3
    have q4 := (hB.cell (p := ⟨B, 4, none⟩) (World.block_lt_of_cell? _ _ c4)).trans c4
    have q5 := (hB.cell (p := ⟨B, 5, none⟩) (World.block_lt_of_cell? _ _ c5)).trans c5
    have hBw := btr hB2 hB
    have hrr := hr.below hBw
    have HB2 := hid hB2
    clear hbx2 c0 c1 c2 c3 c4 c5 hB2
    obtain ⟨wo, rfl⟩ : ∃ wo : World, wo = wr := ⟨_, rfl⟩
    rcases hk with rfl | ⟨he, rfl⟩ | ⟨he, hcf, rfl⟩
    · cases hb : eulB m with
      | true =>
        have Hb := hid hb
        clear hb
        go_upto_region 7 with fail
        go_cut [25] from 19 to 25 (fun t wc => t = .bool (!true) ∧ Below wo.heap.size wo wc)
        case first =>
          go_region_held (fun w' => Below wo.heap.size wo w' ∧ w'.cell? ⟨w.heap.size, 0, none⟩ = some (.slice A m.length cap) ∧ w'.cell? ⟨B, 0, none⟩ = some (.func (.func 32) #[] #[])) (exact held_pair hbx q0 (by first | exact below_dr wo 1 | assumption)) (first
            | (go_at_call 32; go_must (refine (eulerian_bool _ m true _ (hrr.below (by first | exact below_dr wo 1 | exact Below.refl _ _)) hv Hb.out).mono ?_; rintro e y1 ⟨rfl, hy1⟩; have k1 : Below wo.heap.size wo y1 := btr (by first | exact below_dr wo 1 | exact Below.refl _ _) hy1)))
          all_goals (go_wp2_with fail; go_meet; exact ⟨rfl, k1⟩)
        case rest =>
          obtain ⟨rfl, C0⟩ := hcut
          have d0 := (C0.cell (p := ⟨w.heap.size, 0, none⟩) (World.block_lt_of_cell? _ _ hbx)).trans hbx
          have d1 := (C0.cell (p := ⟨B, 1, none⟩) (World.block_lt_of_cell? _ _ q1)).trans q1
          obtain ⟨wz, rfl⟩ : ∃ wz : World, wz = wc := ⟨_, rfl⟩
          go_upto_region 9 with fail
          go_region_held (fun w' => Below wz.heap.size wz w' ∧ w'.cell? ⟨w.heap.size, 0, none⟩ = some (.slice A m.length cap) ∧ w'.cell? ⟨B, 1, none⟩ = some (.func (.func 60) #[] #[])) (exact held_pair d0 d1 (by first | exact below_dr wz 1 | assumption)) (first
            | (go_at_call 60; go_must (refine (let1_any m.length _ p2).mono ?_; rintro e y1 ⟨rfl, hy1⟩; have k1 : Below wz.heap.size wz y1 := (by rw [hy1]; first | exact below_dr wz 1 | exact Below.refl _ _); clear hy1)))
          all_goals (go_wp2_with fail; go_ret2; exact ⟨by rw [show bndM m = _ from if_pos Hb.out]; rfl, btr hBw (btr C0 k1)⟩)
      | false =>
        have Hb := hid hb
        clear hb
        go_upto_region 7 with fail
        go_cut [25] from 19 to 25 (fun t wc => t = .bool (!false) ∧ Below wo.heap.size wo wc)
        case first =>
          go_region_held (fun w' => Below wo.heap.size wo w' ∧ w'.cell? ⟨w.heap.size, 0, none⟩ = some (.slice A m.length cap) ∧ w'.cell? ⟨B, 0, none⟩ = some (.func (.func 32) #[] #[])) (exact held_pair hbx q0 (by first | exact below_dr wo 1 | assumption)) (first
            | (go_at_call 32; go_must (refine (eulerian_bool _ m false _ (hrr.below (by first | exact below_dr wo 1 | exact Below.refl _ _)) hv Hb.out).mono ?_; rintro e y1 ⟨rfl, hy1⟩; have k1 : Below wo.heap.size wo y1 := btr (by first | exact below_dr wo 1 | exact Below.refl _ _) hy1)))
          all_goals (go_wp2_with fail; go_meet; exact ⟨rfl, k1⟩)
        case rest =>
          obtain ⟨rfl, C0⟩ := hcut
          go_wp2_with fail
          go_roundw
          case rel => exact ⟨.inr (.inl ⟨by first | trivial | exact Hb.out, rfl⟩), btr hB C0⟩
          case measure => simp [lenV]
    · have He := hid he
      clear he
      cases hb : circB m with
      | true =>
        have Hb := hid hb
        clear hb
        go_upto_region 7 with fail
        go_cut [25] from 19 to 25 (fun t wc => t = .bool (!true) ∧ Below wo.heap.size wo wc)
        case first =>
          go_region_held (fun w' => Below wo.heap.size wo w' ∧ w'.cell? ⟨w.heap.size, 0, none⟩ = some (.slice A m.length cap) ∧ w'.cell? ⟨B, 2, none⟩ = some (.func (.func 61) #[] #[])) (exact held_pair hbx q2 (by first | exact below_dr wo 1 | assumption)) (first
            | (go_at_call 61; go_must (refine (circular_any _ m true _ (hrr.below (by first | exact below_dr wo 1 | exact Below.refl _ _)) hv Hb.out).mono ?_; rintro e y1 ⟨rfl, hy1⟩; have k1 : Below wo.heap.size wo y1 := btr (by first | exact below_dr wo 1 | exact Below.refl _ _) hy1)))
          all_goals (go_wp2_with fail; go_meet; exact ⟨rfl, k1⟩)
        case rest =>
          obtain ⟨rfl, C0⟩ := hcut
          have d0 := (C0.cell (p := ⟨w.heap.size, 0, none⟩) (World.block_lt_of_cell? _ _ hbx)).trans hbx
          have d1 := (C0.cell (p := ⟨B, 3, none⟩) (World.block_lt_of_cell? _ _ q3)).trans q3
          obtain ⟨wz, rfl⟩ : ∃ wz : World, wz = wc := ⟨_, rfl⟩
          go_upto_region 9 with fail
          go_region_held (fun w' => Below wz.heap.size wz w' ∧ w'.cell? ⟨w.heap.size, 0, none⟩ = some (.slice A m.length cap) ∧ w'.cell? ⟨B, 3, none⟩ = some (.func (.func 62) #[] #[])) (exact held_pair d0 d1 (by first | exact below_dr wz 1 | assumption)) (first
            | (go_at_call 62; go_must (refine (let2_any m.length _ p1 p2).mono ?_; rintro e y1 ⟨rfl, hy1⟩; have k1 : Below wz.heap.size wz y1 := (by rw [hy1]; first | exact below_dr wz 1 | exact Below.refl _ _); clear hy1)))
          all_goals (go_wp2_with fail; go_ret2; exact ⟨by rw [show bndM m = _ from (if_neg (by rw [He.out]; decide)).trans (if_pos Hb.out)]; rfl, btr hBw (btr C0 k1)⟩)
      | false =>
        have Hb := hid hb
        clear hb
        go_upto_region 7 with fail
        go_cut [25] from 19 to 25 (fun t wc => t = .bool (!false) ∧ Below wo.heap.size wo wc)
        case first =>
          go_region_held (fun w' => Below wo.heap.size wo w' ∧ w'.cell? ⟨w.heap.size, 0, none⟩ = some (.slice A m.length cap) ∧ w'.cell? ⟨B, 2, none⟩ = some (.func (.func 61) #[] #[])) (exact held_pair hbx q2 (by first | exact below_dr wo 1 | assumption)) (first
            | (go_at_call 61; go_must (refine (circular_any _ m false _ (hrr.below (by first | exact below_dr wo 1 | exact Below.refl _ _)) hv Hb.out).mono ?_; rintro e y1 ⟨rfl, hy1⟩; have k1 : Below wo.heap.size wo y1 := btr (by first | exact below_dr wo 1 | exact Below.refl _ _) hy1)))
          all_goals (go_wp2_with fail; go_meet; exact ⟨rfl, k1⟩)
        case rest =>
          obtain ⟨rfl, C0⟩ := hcut
          go_wp2_with fail
          go_roundw
          case rel => exact ⟨.inr (.inr ⟨by first | trivial | exact He.out, by first | trivial | exact Hb.out, rfl⟩), btr hB C0⟩
          case measure => simp [lenV]
    · have He := hid he
      have Hf := hid hcf
      clear he hcf
      go_upto_region 7 with fail
      go_cut [25] from 19 to 25 (fun t wc => t = .bool (!true) ∧ Below wo.heap.size wo wc)
      case first =>
        go_region_held (fun w' => Below wo.heap.size wo w' ∧ w'.cell? ⟨w.heap.size, 0, none⟩ = some (.slice A m.length cap) ∧ w'.cell? ⟨B, 4, none⟩ = some (.func (.func 63) #[] #[])) (exact held_pair hbx q4 (by first | exact below_dr wo 1 | assumption)) (first
          | (go_at_call 63; go_must (refine (holds3_any _ _).mono ?_; rintro e y1 ⟨rfl, hy1⟩; have k1 : Below wo.heap.size wo y1 := btr (by first | exact below_dr wo 1 | exact Below.refl _ _) hy1)))
        all_goals (go_wp2_with fail; go_meet; exact ⟨rfl, k1⟩)
      case rest =>
        obtain ⟨rfl, C0⟩ := hcut
        have d0 := (C0.cell (p := ⟨w.heap.size, 0, none⟩) (World.block_lt_of_cell? _ _ hbx)).trans hbx
        have d1 := (C0.cell (p := ⟨B, 5, none⟩) (World.block_lt_of_cell? _ _ q5)).trans q5
        obtain ⟨wz, rfl⟩ : ∃ wz : World, wz = wc := ⟨_, rfl⟩
        go_upto_region 9 with fail
        go_region_held (fun w' => Below wz.heap.size wz w' ∧ w'.cell? ⟨w.heap.size, 0, none⟩ = some (.slice A m.length cap) ∧ w'.cell? ⟨B, 5, none⟩ = some (.func (.func 64) #[] #[])) (exact held_pair d0 d1 (by first | exact below_dr wz 1 | assumption)) (first
          | (go_at_call 64; go_must (refine (let4_any m.length _ p1 p2).mono ?_; rintro e y1 ⟨rfl, hy1⟩; have k1 : Below wz.heap.size wz y1 := (by rw [hy1]; first | exact below_dr wz 1 | exact Below.refl _ _); clear hy1)))
        all_goals (go_wp2_with fail; go_ret2; exact ⟨by rw [show bndM m = _ from (if_neg (by rw [He.out]; decide)).trans (if_neg (by rw [Hf.out]; decide))]; rfl, btr hBw (btr C0 k1)⟩)
end Go.Proofs.YtphpablchlpagaaDoor
namespace Go.Proofs.YtphpablchlpagaaDoor
open Go.RowKit Go.Shelf
def m6a : List (List Int) := [[1, 0], [2, 1], [0, 2]]
def m6b : List (List Int) := [[0, 1], [0, 2], [1, 2]]
theorem m6a_valid : validM m6a = true := by decide +kernel
theorem m6b_valid : validM m6b = true := by decide +kernel
theorem m6a_eul : eulB m6a = true := by decide +kernel
theorem m6a_cyc : cycB m6a ((0 : Nat) : Int) = true := by decide +kernel
theorem m6a_apart : (apartL m6a).length ≠ 0 := by decide +kernel
theorem m6b_apart : apartL m6b = [] := by decide +kernel
theorem m6b_bnd : bndM m6b = 3 := by decide +kernel
theorem m6a_none : ¬ allMerge m6a := fun h => m6a_apart (by rw [(apartL_nil m6a_valid).2 h]; rfl)
theorem m6b_all : allMerge m6b := (apartL_nil m6b_valid).1 m6b_apart
theorem m6b_big : szS 1 < szS (preWord m6b 1 [0]) := by decide +kernel
theorem m6b_first {u : List Int} (h : FirstBig m6b 1 u) : u = [0] := by
  obtain ⟨h1, h2, h3⟩ := h
  rcases h3 [0] (fun x hx => by
    obtain rfl : x = 0 := by simpa using hx
    exact ⟨by decide, by decide +kernel⟩) m6b_big with e | e | ⟨e, k⟩
  · exact e
  · obtain rfl : u = [] := List.eq_nil_of_length_eq_zero (by simpa using e)
    exact absurd h2 (Nat.lt_irrefl _)
  · match u, e with
    | [y], _ =>
      have hy := h1 y (by simp)
      rcases k with k | ⟨rfl, k⟩
      · omega
      · exact absurd k (by simp [lexLt])
theorem circ_m6a (v : Value) (w : World) (h : Rows w v m6a) : Calls Tryd.prog 10 #[.agg #[v]] w fun e w' => e = .returned (.tuple #[.int .i64 0, .int .i64 0]) ∧ Below w.heap.size w w' := by
  refine (Circular_ok v m6a w h m6a_valid).mono ?_
  rintro e w1 ⟨x, c, rfl, ⟨h1, h2, h3, rfl⟩ | ⟨h1, rfl, rfl⟩, hb⟩
  · by_cases e : x = 0
    · subst e; exact ⟨rfl, hb⟩
    · have := h3 0 (by omega)
      rw [m6a_cyc] at this
      cases this
  · have := h1 0 (by decide +kernel)
    rw [m6a_cyc] at this
    cases this
theorem extend_m6b (v s : Value) (w : World) (hT : Tab w) (h : Rows w v m6b) (hs : Ints w s [0]) : Calls Tryd.prog 17 #[.agg #[v], s] w fun e w' => ∃ A c, e = .returned (.tuple #[.slice A 1 c, .int .i64 0]) ∧ Ints w' (.slice A 1 c) [0] ∧ Below w.heap.size w w' := by
  refine (Extend_ok v s m6b [0] w hT h hs m6b_valid (by decide +kernel) (by decide)).mono ?_
  rintro e w1 ⟨⟨u, r, h1, h2, rfl, ho⟩ | ⟨h1, -⟩, hb⟩
  · rw [m6b_first h1] at ho
    have hi : Ints w1 r [0] := Ints.of_own ho (by decide)
    obtain ⟨A, c, rfl, _⟩ := id hi
    exact ⟨A, c, rfl, hi, hb⟩
  · exact absurd m6b_big (h1 [0] (fun x hx => by
      obtain rfl : x = 0 := by simpa using hx
      exact ⟨by decide, by decide +kernel⟩))
set_option maxRecDepth 100000 in
set_option maxHeartbeats 4000000 in
theorem awake6_any (w : World) (hT : Tab w) :
    Calls Tryd.prog 13 #[] w fun e w' => e = .returned (.bool true) ∧ Below w.heap.size w w' := by
  go_enter Tryd.func13, Tryd.ntmps13
  go_upto_region 2 with fail
  have hRa := (lit_rows w 1 0 2 1 0 2).alloc (.cells #[.slice (some ⟨w.heap.size + 1 + 1 + 1, 0, none⟩) 3 3] 24)
  have hX1 : Below w.heap.size w (((((w.alloc (.cells #[.int .i64 1, .int .i64 0] 3)).alloc (.cells #[.int .i64 2, .int .i64 1] 3)).alloc (.cells #[.int .i64 0, .int .i64 2] 3)).alloc (.cells #[.slice (some ⟨w.heap.size, 0, none⟩) 2 2, .slice (some ⟨w.heap.size + 1, 0, none⟩) 2 2, .slice (some ⟨w.heap.size + 1 + 1, 0, none⟩) 2 2] 34)).alloc (.cells #[.slice (some ⟨w.heap.size + 1 + 1 + 1, 0, none⟩) 3 3] 24)) := bal (bal (bal (bal (bal (Below.refl _ w) _) _) _) _) _
  have c1 := (Boxed.new ((((w.alloc (.cells #[.int .i64 1, .int .i64 0] 3)).alloc (.cells #[.int .i64 2, .int .i64 1] 3)).alloc (.cells #[.int .i64 0, .int .i64 2] 3)).alloc (.cells #[.slice (some ⟨w.heap.size, 0, none⟩) 2 2, .slice (some ⟨w.heap.size + 1, 0, none⟩) 2 2, .slice (some ⟨w.heap.size + 1 + 1, 0, none⟩) 2 2] 34)) 24 (.slice (some ⟨w.heap.size + 1 + 1 + 1, 0, none⟩) 3 3)).cell
  simp only [World.size_alloc] at c1
  generalize hXX : ((((w.alloc (.cells #[.int .i64 1, .int .i64 0] 3)).alloc (.cells #[.int .i64 2, .int .i64 1] 3)).alloc (.cells #[.int .i64 0, .int .i64 2] 3)).alloc (.cells #[.slice (some ⟨w.heap.size, 0, none⟩) 2 2, .slice (some ⟨w.heap.size + 1, 0, none⟩) 2 2, .slice (some ⟨w.heap.size + 1 + 1, 0, none⟩) 2 2] 34)).alloc (.cells #[.slice (some ⟨w.heap.size + 1 + 1 + 1, 0, none⟩) 3 3] 24) = X at *
  clear hXX
  generalize hva : Value.slice (some ⟨w.heap.size + 1 + 1 + 1, 0, none⟩) 3 3 = va at *
  obtain ⟨ga, rfl⟩ : ∃ g, va = .slice (some ⟨g, 0, none⟩) 3 3 := ⟨_, hva.symm⟩
  clear hva
  have hRa' : Rows X (.slice (some ⟨ga, 0, none⟩) 3 3) m6a := hRa
  clear hRa
  generalize w.heap.size + 1 + 1 + 1 + 1 = B at *
  generalize Value.slice (some ⟨w.heap.size, 0, none⟩) 2 2 = z1 at *
  generalize Value.slice (some ⟨w.heap.size + 1, 0, none⟩) 2 2 = z2 at *
  generalize Value.slice (some ⟨w.heap.size + 1 + 1, 0, none⟩) 2 2 = z3 at *
  go_upto_region 3 with fail
  have hRb := (lit_rows X 0 1 0 2 1 2).alloc (.cells #[.slice (some ⟨X.heap.size + 1 + 1 + 1, 0, none⟩) 3 3] 24)
  have hX2 : Below X.heap.size X (((((X.alloc (.cells #[.int .i64 0, .int .i64 1] 3)).alloc (.cells #[.int .i64 0, .int .i64 2] 3)).alloc (.cells #[.int .i64 1, .int .i64 2] 3)).alloc (.cells #[.slice (some ⟨X.heap.size, 0, none⟩) 2 2, .slice (some ⟨X.heap.size + 1, 0, none⟩) 2 2, .slice (some ⟨X.heap.size + 1 + 1, 0, none⟩) 2 2] 34)).alloc (.cells #[.slice (some ⟨X.heap.size + 1 + 1 + 1, 0, none⟩) 3 3] 24)) := bal (bal (bal (bal (bal (Below.refl _ X) _) _) _) _) _
  have c2 := (Boxed.new ((((X.alloc (.cells #[.int .i64 0, .int .i64 1] 3)).alloc (.cells #[.int .i64 0, .int .i64 2] 3)).alloc (.cells #[.int .i64 1, .int .i64 2] 3)).alloc (.cells #[.slice (some ⟨X.heap.size, 0, none⟩) 2 2, .slice (some ⟨X.heap.size + 1, 0, none⟩) 2 2, .slice (some ⟨X.heap.size + 1 + 1, 0, none⟩) 2 2] 34)) 24 (.slice (some ⟨X.heap.size + 1 + 1 + 1, 0, none⟩) 3 3)).cell
  simp only [World.size_alloc] at c2
  have c1 := (hX2.cell (p := ⟨B, 0, none⟩) (World.block_lt_of_cell? _ _ c1)).trans c1
  have hRa := hRa'.below hX2
  have hB := btr hX1 hX2
  clear hRa' hX2 hX1
  generalize hYY : ((((X.alloc (.cells #[.int .i64 0, .int .i64 1] 3)).alloc (.cells #[.int .i64 0, .int .i64 2] 3)).alloc (.cells #[.int .i64 1, .int .i64 2] 3)).alloc (.cells #[.slice (some ⟨X.heap.size, 0, none⟩) 2 2, .slice (some ⟨X.heap.size + 1, 0, none⟩) 2 2, .slice (some ⟨X.heap.size + 1 + 1, 0, none⟩) 2 2] 34)).alloc (.cells #[.slice (some ⟨X.heap.size + 1 + 1 + 1, 0, none⟩) 3 3] 24) = Y at *
  clear hYY
  generalize hva : Value.slice (some ⟨X.heap.size + 1 + 1 + 1, 0, none⟩) 3 3 = va at *
  obtain ⟨gb, rfl⟩ : ∃ g, va = .slice (some ⟨g, 0, none⟩) 3 3 := ⟨_, hva.symm⟩
  clear hva
  have hRb' : Rows Y (.slice (some ⟨gb, 0, none⟩) 3 3) m6b := hRb
  clear hRb
  generalize X.heap.size + 1 + 1 + 1 + 1 = C at *
  go_wp2_with fail
  refine (Eulerian_ok _ m6a true Y hRa m6a_valid m6a_eul).mono ?_
  rintro e y1 ⟨rfl, h1⟩
  have c1 := (h1.cell (p := ⟨B, 0, none⟩) (World.block_lt_of_cell? _ _ c1)).trans c1
  have c2 := (h1.cell (p := ⟨C, 0, none⟩) (World.block_lt_of_cell? _ _ c2)).trans c2
  have hRa := hRa.below h1
  have hRb := hRb'.below h1
  have hB := btr hB h1
  clear hRb' h1
  go_wp2_with fail
  refine (circ_m6a _ y1 hRa).mono ?_
  rintro e y2 ⟨rfl, h1⟩
  have c1 := (h1.cell (p := ⟨B, 0, none⟩) (World.block_lt_of_cell? _ _ c1)).trans c1
  have c2 := (h1.cell (p := ⟨C, 0, none⟩) (World.block_lt_of_cell? _ _ c2)).trans c2
  have hRa := hRa.below h1
  have hRb := hRb.below h1
  have hB := btr hB h1
  clear h1
  go_wp2_with fail
  refine (Bound_none _ m6a y2 hRa m6a_valid m6a_none).mono ?_
  rintro e y3 ⟨rfl, h1⟩
  have c2 := (h1.cell (p := ⟨C, 0, none⟩) (World.block_lt_of_cell? _ _ c2)).trans c2
  have hRb := hRb.below h1
  have hB := btr hB h1
  clear h1
  go_wp2_with fail
  refine (Bound_ok _ m6b y3 hRb m6b_valid m6b_all).mono ?_
  rw [m6b_bnd]
  rintro e y4 ⟨rfl, h1⟩
  have c2 := (h1.cell (p := ⟨C, 0, none⟩) (World.block_lt_of_cell? _ _ c2)).trans c2
  have hRb := hRb.below h1
  have hB := btr hB h1
  clear h1
  go_wp2_with fail
  have hX4 := bal (Below.refl _ y4) (.cells #[.int .i64 0] 3)
  refine (extend_m6b _ _ _ (hT.on (btr hB hX4)) (hRb.below hX4) (Ints.one' y4 0 3 _ rfl)).mono ?_
  rintro e y5 ⟨A5, k5, rfl, i5, h1⟩
  have hB := btr hB (btr hX4 h1)
  clear h1 hX4 hRb c2
  go_wp2_with fail
  refine (rSame_eq _ _ [0] _ (i5.alloc _) (Ints.one' y5 0 3 _ rfl)).mono ?_
  rintro e y6 ⟨rfl, h1⟩
  go_wp2
  go_ret
  exact ⟨rfl, btr hB (btr (bal (Below.refl _ y5) _) h1)⟩
end Go.Proofs.YtphpablchlpagaaDoor
namespace Go.Proofs.YtphpablchlpagaaDoor
open Go.RowKit Go.Shelf
theorem set_size {m : List (List Int)} (hv : validM m = true) {sl : List Int} (hs : isSetM m sl = true) : szS (ofList sl) = sl.length := by
  have hn : m.length ≤ 64 := by have := (valid_parts hv).2.1; omega
  have h1 := isSetM_mem hs
  have hS := ofList_lt m.length hn sl h1
  have hsort : sl.Pairwise (· < ·) := sorted_of_incr (by simp only [isSetM, Bool.and_eq_true] at hs; exact hs.1)
  have hmem : ∀ x : Nat, x ∈ elems (ofList sl) ↔ x ∈ sl.map Int.toNat := fun x => by
    rw [mem_of_testBit hS hn, ofList_testBit, List.any_eq_true, List.mem_map]
    simp
  have hnd : (sl.map Int.toNat).Nodup := List.pairwise_map.2 (hsort.imp_of_mem fun {a b} ha hb hab => by
    have := h1 a ha
    have := h1 b hb
    omega)
  have a1 := nodup_lenR hnd (fun x hx => (hmem x).2 hx)
  have a2 := nodup_lenR (elems_nodup (ofList sl)) (fun x hx => (hmem x).1 hx)
  rw [List.length_map] at a1 a2
  unfold szS
  omega
theorem FirstBig.len {m : List (List Int)} {S : Nat} {u w : List Int} (h : FirstBig m S u) (hw : WDm m w) (hb : szS S < szS (preWord m S w)) : u.length ≤ w.length := by
  rcases h.2.2 w hw hb with e | e | ⟨e, _⟩
  · rw [e]; exact Nat.le_refl _
  · omega
  · omega
theorem first_word {m : List (List Int)} {S : Nat} {u : List Int} (h : FirstBig m S u) (hl : u.length ≤ 4096) : isWordM m u = true := by
  simp only [isWordM, Bool.and_eq_true, decide_eq_true_eq]
  exact ⟨by omega, h.1.all⟩
/-- What is asked of Extend's word. -/
theorem kari_word {m : List (List Int)} (hv : validM m = true) {sl u : List Int} (hs : isSetM m sl = true) (h0 : sl.length ≠ 0) (hn : sl.length ≠ m.length) (hb : eulB m = true) (hall : allMerge m) (h : FirstBig m (ofList sl) u) : u.length + 1 ≤ m.length := by
  have hm : m.length ≤ 64 := by have := (valid_parts hv).2.1; omega
  have hsz := set_size hv hs
  have hS := ofList_lt m.length hm sl (isSetM_mem hs)
  have hle := szS_le hS hm
  obtain ⟨w, h1, h2, h3⟩ := kari_more hv ((eulB_eulM hv).1 hb) hall hS (by omega) (by omega)
  have := h.len h1 h3
  omega
theorem kari_some {m : List (List Int)} (hv : validM m = true) {sl : List Int} (hs : isSetM m sl = true) (h0 : sl.length ≠ 0) (hn : sl.length ≠ m.length) (hb : eulB m = true) (hall : allMerge m) (hno : ∀ u, WDm m u → ¬ szS (ofList sl) < szS (preWord m (ofList sl) u)) : False := by
  have hm : m.length ≤ 64 := by have := (valid_parts hv).2.1; omega
  have hsz := set_size hv hs
  have hS := ofList_lt m.length hm sl (isSetM_mem hs)
  have hle := szS_le hS hm
  obtain ⟨w, h1, h2, h3⟩ := kari_more hv ((eulB_eulM hv).1 hb) hall hS (by omega) (by omega)
  exact hno w h1 h3
theorem pre_longer {m : List (List Int)} (hv : validM m = true) {sl u : List Int} (hs : isSetM m sl = true) (h : FirstBig m (ofList sl) u) : sl.length < (preimageM m sl u).length := by
  have e : (preimageM m sl u).length = szS (preWord m (ofList sl) u) := by unfold preimageM; rw [setM_elems]; rfl
  rw [e, ← set_size hv hs]; exact h.2.1
set_option maxRecDepth 100000 in
set_option maxHeartbeats 8000000 in
theorem eulerKari_any (v u1 : Value) (m : List (List Int)) (sl : List Int) (w : World) (hT : Tab w) (h : Rows w v m) (hs : Ints w u1 sl) :
    Calls Tryd.prog 5 #[.agg #[v], u1] w fun e w' => e = .returned (.bool true) ∧ Below w.heap.size w w' := by
  obtain ⟨A, cap, rfl, hml, -⟩ := id h
  obtain ⟨As, caps, rfl, hls, -⟩ := id hs
  obtain ⟨k, hk⟩ : ∃ k, sl.length = k := ⟨_, rfl⟩
  rw [hk] at hs hls ⊢
  have Hk := hid hk
  clear hk
  have hX := bal (Below.refl _ w) (.cells #[.slice A m.length cap] 24)
  have hbx : (w.alloc (.cells #[.slice A m.length cap] 24)).cell? ⟨w.heap.size, 0, none⟩ = some (.slice A m.length cap) := by simp [go_sem]
  go_enter Tryd.func5, Tryd.ntmps5
  cases hv : validM m with
  | false =>
    go_wp2_with fail
    refine (rValid_bool _ m false _ (h.below hX) hv).mono ?_
    rintro e w1 ⟨rfl, h1⟩
    go_wp2_with fail
    refine (awake6_any _ (hT.on (btr hX h1))).mono ?_
    rintro e w2 ⟨rfl, h2⟩
    go_wp2_with fail
    go_ret
    exact ⟨rfl, btr (btr hX h1) h2⟩
  | true =>
    go_wp2_with fail
    refine (rValid_bool _ m true _ (h.below hX) hv).mono ?_
    rintro e w1 ⟨rfl, h1⟩
    have hbx1 := (h1.cell (p := ⟨w.heap.size, 0, none⟩) (World.block_lt_of_cell? _ _ hbx)).trans hbx
    have hB1 := btr hX h1
    clear hX hbx h1
    cases ha : isSetM m sl with
    | false =>
      go_wp2_with fail
      refine (rSet_bool _ _ m sl false _ (h.below hB1) (hs.below hB1) ha).mono ?_
      rintro e w2 ⟨rfl, h2⟩
      go_wp2_with fail
      refine (awake6_any _ (hT.on (btr hB1 h2))).mono ?_
      rintro e w3 ⟨rfl, h3⟩
      go_wp2_with fail
      go_ret
      exact ⟨rfl, btr (btr hB1 h2) h3⟩
    | true =>
      go_wp2_with fail
      refine (rSet_bool _ _ m sl true _ (h.below hB1) (hs.below hB1) ha).mono ?_
      rintro e w2 ⟨rfl, h2⟩
      have hbx2 := (h2.cell (p := ⟨w.heap.size, 0, none⟩) (World.block_lt_of_cell? _ _ hbx1)).trans hbx1
      have hB2 := btr hB1 h2
      clear hB1 hbx1 h2
      by_cases hskip : 12 < m.length ∨ k = 0 ∨ k = m.length
      · by_cases s1 : 12 < m.length
        · have t1 : (12 : Int) < m.length := by omega
          have t2 : decide ((12 : Int) < m.length) = true := decide_eq_true t1
          go_wp2_with fail
          refine (awake6_any _ (hT.on hB2)).mono ?_
          rintro e w3 ⟨rfl, h3⟩
          go_wp2_with fail
          go_ret
          exact ⟨rfl, btr hB2 h3⟩
        · have t1 : ¬ (12 : Int) < m.length := by omega
          have t2 : decide ((12 : Int) < m.length) = false := decide_eq_false t1
          by_cases s2 : k = 0
          · have t3 : (k : Int) = 0 := by omega
            have t4 : ((k : Int) == 0) = true := by simpa using t3
            go_wp2_with fail
            refine (awake6_any _ (hT.on hB2)).mono ?_
            rintro e w3 ⟨rfl, h3⟩
            go_wp2_with fail
            go_ret
            exact ⟨rfl, btr hB2 h3⟩
          · have t3 : ¬ (k : Int) = 0 := by omega
            have t4 : ((k : Int) == 0) = false := beq_eq_false_iff_ne.2 t3
            obtain rfl : k = m.length := by omega
            go_wp2_with fail
            refine (awake6_any _ (hT.on hB2)).mono ?_
            rintro e w3 ⟨rfl, h3⟩
            go_wp2_with fail
            go_ret
            exact ⟨rfl, btr hB2 h3⟩
      · have s1 : ¬ 12 < m.length := fun e => hskip (.inl e)
        have s2 : ¬ k = 0 := fun e => hskip (.inr (.inl e))
        have s3 : ¬ k = m.length := fun e => hskip (.inr (.inr e))
        have t1 : ¬ (12 : Int) < m.length := by omega
        have t2 : decide ((12 : Int) < m.length) = false := decide_eq_false t1
        have t3 : ¬ (k : Int) = 0 := by omega
        have t4 : ((k : Int) == 0) = false := beq_eq_false_iff_ne.2 t3
        have t5 : ¬ (k : Int) = m.length := by omega
        have t6 : ((k : Int) == m.length) = false := beq_eq_false_iff_ne.2 t5
        have h12 : m.length ≤ 12 := by omega
        clear hskip
        obtain ⟨b, hb⟩ : ∃ b, eulB m = b := ⟨_, rfl⟩
        obtain ⟨c, hc⟩ : ∃ c : Int, (allMerge m ∧ c = 0) ∨ (¬ allMerge m ∧ c = 4) := by
          by_cases hall : allMerge m
          · exact ⟨0, .inl ⟨hall, rfl⟩⟩
          · exact ⟨4, .inr ⟨hall, rfl⟩⟩
        have Hb := hid hb
        have Hc := hid hc
        clear hb hc
        go_wp2_with fail
        refine (Eulerian_ok _ m b _ (h.below hB2) hv Hb.out).mono ?_
        rintro e w3 ⟨rfl, h3⟩
        have hbx3 := (h3.cell (p := ⟨w.heap.size, 0, none⟩) (World.block_lt_of_cell? _ _ hbx2)).trans hbx2
        have hB3 := btr hB2 h3
        clear hbx2 h3 hB2
        go_wp2_with fail
        refine (Reset_code _ m c _ (hT.on hB3) (h.below hB3) hv Hc).mono ?_
        rintro e w4 ⟨r8, rfl, h4⟩
        have hbx4 := (h4.cell (p := ⟨w.heap.size, 0, none⟩) (World.block_lt_of_cell? _ _ hbx3)).trans hbx3
        have hB4 := btr hB3 h4
        clear hbx3 h4 hB3
        rcases Hc.out with ⟨hall, rfl⟩ | ⟨hall, rfl⟩
        · have Hall := hid hall
          clear hall
          go_wp2_with fail
          refine (Extend_ok _ _ m sl _ (hT.on hB4) (h.below hB4) (hs.below hB4) hv ha h12).mono ?_
          rintro e w5 ⟨⟨u, r, hF, hul, rfl, ho⟩ | ⟨hno, rfl⟩, h5⟩
          · have hB5 := btr hB4 h5
            have hbx5 := (h5.cell (p := ⟨w.heap.size, 0, none⟩) (World.block_lt_of_cell? _ _ hbx4)).trans hbx4
            have hi := Ints.of_own ho (by unfold big; omega)
            have hfw := first_word hF hul
            have hpl := pre_longer hv ha hF
            have HF := hid hF
            clear ho hF h5 hbx4 hB4
            obtain ⟨Ar, cr, rfl, -, -⟩ := id hi
            obtain ⟨ul, hul'⟩ : ∃ q, u.length = q := ⟨_, rfl⟩
            rw [hul'] at hi hul ⊢
            have Hul := hid hul'
            clear hul'
            go_wp2_with fail
            refine (Preimage_ok _ _ _ m sl u _ (hT.on hB5) (h.below hB5) (hs.below hB5) hi hv ha hfw).mono ?_
            rintro e w6 ⟨r6, rfl, i6, h6⟩
            have hB6 := btr hB5 h6
            obtain ⟨A6, c6, rfl, -, -⟩ := id i6
            rw [Hk.out] at hpl
            generalize (preimageM m sl u).length = pl at *
            clear i6 h6 hbx5 hi hfw
            have p1 : ¬ (pl : Int) ≤ k := by omega
            have p2 : decide ((pl : Int) ≤ k) = false := decide_eq_false p1
            have p3 : decide (pl ≤ k) = false := decide_eq_false (by omega)
            cases b with
            | false =>
              go_wp2_with fail
              refine (awake6_any _ (hT.on hB6)).mono ?_
              rintro e w9 ⟨rfl, h9⟩
              go_wp2_with fail
              go_ret
              exact ⟨rfl, btr hB6 h9⟩
            | true =>
              have hw := kari_word hv ha (by rw [Hk.out]; exact s2) (by rw [Hk.out]; exact s3) Hb.out Hall.out HF.out
              rw [Hul.out] at hw
              have n1 : (ul : Int) ≤ m.length - 1 := by omega
              have n2 : decide ((ul : Int) ≤ m.length - 1) = true := decide_eq_true n1
              go_wp2_with fail
              refine (awake6_any _ (hT.on hB6)).mono ?_
              rintro e w9 ⟨rfl, h9⟩
              go_wp2_with fail
              go_ret
              exact ⟨rfl, btr hB6 h9⟩
          · have hB5 := btr hB4 h5
            have Hno := hid hno
            clear hno
            cases b with
            | false =>
              go_wp2_with fail
              refine (awake6_any _ (hT.on hB5)).mono ?_
              rintro e w9 ⟨rfl, h9⟩
              go_wp2_with fail
              go_ret
              exact ⟨rfl, btr hB5 h9⟩
            | true =>
              exact (kari_some hv ha (by rw [Hk.out]; exact s2) (by rw [Hk.out]; exact s3) Hb.out Hall.out Hno.out).elim
        · have Hall := hid hall
          clear hall
          go_wp2_with fail
          refine (Extend_ok _ _ m sl _ (hT.on hB4) (h.below hB4) (hs.below hB4) hv ha h12).mono ?_
          rintro e w5 ⟨⟨u, r, hF, hul, rfl, ho⟩ | ⟨hno, rfl⟩, h5⟩
          · have hB5 := btr hB4 h5
            have hbx5 := (h5.cell (p := ⟨w.heap.size, 0, none⟩) (World.block_lt_of_cell? _ _ hbx4)).trans hbx4
            have hi := Ints.of_own ho (by unfold big; omega)
            have hfw := first_word hF hul
            have hpl := pre_longer hv ha hF
            have HF := hid hF
            clear ho hF h5 hbx4 hB4
            obtain ⟨Ar, cr, rfl, -, -⟩ := id hi
            obtain ⟨ul, hul'⟩ : ∃ q, u.length = q := ⟨_, rfl⟩
            rw [hul'] at hi hul ⊢
            have Hul := hid hul'
            clear hul'
            go_wp2_with fail
            refine (Preimage_ok _ _ _ m sl u _ (hT.on hB5) (h.below hB5) (hs.below hB5) hi hv ha hfw).mono ?_
            rintro e w6 ⟨r6, rfl, i6, h6⟩
            have hB6 := btr hB5 h6
            obtain ⟨A6, c6, rfl, -, -⟩ := id i6
            rw [Hk.out] at hpl
            generalize (preimageM m sl u).length = pl at *
            clear i6 h6 hbx5 hi hfw
            have p1 : ¬ (pl : Int) ≤ k := by omega
            have p2 : decide ((pl : Int) ≤ k) = false := decide_eq_false p1
            have p3 : decide (pl ≤ k) = false := decide_eq_false (by omega)
            cases b with
            | false =>
              go_wp2_with fail
              refine (awake6_any _ (hT.on hB6)).mono ?_
              rintro e w9 ⟨rfl, h9⟩
              go_wp2_with fail
              go_ret
              exact ⟨rfl, btr hB6 h9⟩
            | true =>
              go_wp2_with fail
              refine (awake6_any _ (hT.on hB6)).mono ?_
              rintro e w9 ⟨rfl, h9⟩
              go_wp2_with fail
              go_ret
              exact ⟨rfl, btr hB6 h9⟩
          · have hB5 := btr hB4 h5
            have Hno := hid hno
            clear hno
            cases b with
            | false =>
              go_wp2_with fail
              refine (awake6_any _ (hT.on hB5)).mono ?_
              rintro e w9 ⟨rfl, h9⟩
              go_wp2_with fail
              go_ret
              exact ⟨rfl, btr hB5 h9⟩
            | true =>
              go_wp2_with fail
              refine (awake6_any _ (hT.on hB5)).mono ?_
              rintro e w9 ⟨rfl, h9⟩
              go_wp2_with fail
              go_ret
              exact ⟨rfl, btr hB5 h9⟩
end Go.Proofs.YtphpablchlpagaaDoor
