/-
  Texts that the proof of the law stands on: W, V, O2, G4, Y18, Y44, U4, U11, U12, U13, U14, U15, U16, U17, U21, U22, U24, U25, U23.
-/
import Derived.Test.YtphpablchlpagaaDoorDbD
import Derived.WalkKit
import Derived.ProofKit
import Derived.OpenShut
import Derived.Deep.DeepHandedRow
import Derived.Deep.DeepWitnessRowRef
import Derived.Lib.LaidTab
import Derived.Lib.LaidIn
import Derived.Lib.ItoaNum
import Derived.WideKeyArgs
import Derived.Test.YtphpablchlpagaaDoorRows
import Derived.Deep.CutRange
import Derived.Deep.RegionHeld3
import Derived.Deep.LoopGhost
import Derived.Deep.RegionHeld
set_option linter.unusedVariables false
set_option linter.unusedSimpArgs false
namespace Go.Proofs.YtphpablchlpagaaDoor
open Go.ChangeShapes Go.WideShapes Go.ChangeAt Go.RowKit
theorem own : ownKnob Tryd.prog.godebug = none := by kernel_rfl
theorem gTab : Tryd.prog.globalNamed "math/bits.deBruijn64tab" = some 0 := by kernel_rfl
theorem gTabType : (Tryd.prog.globals[0]?).map (·.type) = some 106 := by kernel_rfl
theorem cellsTab : Tryd.prog.cellsOf 106 = 64 := by kernel_rfl
theorem cellsU8 : Tryd.prog.cellsOf 5 = 1 := by kernel_rfl
section
variable {H : Type} {enc : TypeId × Value → H}
/-- All arguments read as they did. -/
theorem TrodAll_stays {P : Program} (hl : laidOutB P = true) {W W' : World} {sp : Nat → Bool} : ∀ {ts : List TypeId} {vs : List Value} {ds : List (DataW H)} {ps : List MemPlace},
    (∀ t ∈ ts, P.readableRec t = true ∧ t < P.types.size) → DataW.TrodAll enc P W 0 (fun _ => true) true ts vs ds ps → (∀ x ∈ ps, W.sameAt W' x) → (∀ x ∈ ps, sp x.block = true) → DataW.TrodAll enc P W' 0 sp true ts vs ds ps
  | [], vs, ds, ps, _, h, _, _ => by cases vs <;> cases ds <;> simp_all [DataW.TrodAll]
  | t :: ts, vs, ds, ps, ht, h, hs, hsp => by
    obtain ⟨v, vs', d, ds', p, q, rfl, rfl, rfl, h0, r0⟩ := trodAll_cons h
    exact trodAll_cons_mk (WideElems.Trod_stays hl (ht t (by simp)).1 (ht t (by simp)).2 h0 (fun x hx => hs x (List.mem_append_left _ hx)) (fun x hx => hsp x (List.mem_append_left _ hx)))
      (TrodAll_stays hl (fun u hu => ht u (by simp [hu])) r0 (fun x hx => hs x (List.mem_append_right _ hx)) (fun x hx => hsp x (List.mem_append_right _ hx)))
set_option maxRecDepth 100000 in
/-- An automaton that came in. -/
theorem auto_of {W : World} {base : Nat} {v : Value} {d : DataW H} {p : List MemPlace} (hv : Value.okWide Tryd.prog W .any base 24 v) (h : DataW.Trod enc Tryd.prog W 0 (fun _ => true) true 24 v d p)
    (hw : ∀ n ∈ d.weights Tryd.prog 24, n ≤ reachBytes) : ∃ c m, v = .agg #[c] ∧ Rows W c m := by
  obtain ⟨cs, rfl, hs⟩ := okWide_struct Tryd.underlying24 hv
  rw [cells_auto] at hs
  obtain ⟨c, rfl⟩ : ∃ c, cs = #[c] := by
    match cs, hs with
    | ⟨[c]⟩, _ => exact ⟨c, rfl⟩
  obtain ⟨fuel, hf⟩ := h
  obtain ⟨y0, n, hx, _, h0⟩ := trod_struct1 Tryd.underlying24 hf
  have hd : d = .agg [y0.1] := (Prod.mk.inj hx).1
  subst hd
  obtain ⟨m, hm⟩ := rows_of_trod (fuel := n) (c := c) (x := y0) h0 (fun k hk => hw k (by
    rw [DataW.weights, Tryd.underlying24]
    simp only [List.map_cons, List.map_nil, DataW.weightsEach, List.append_nil]
    exact hk))
  exact ⟨c, m, rfl, hm⟩
set_option maxRecDepth 100000 in
/-- A list of numbers that came in. -/
theorem list_of {W : World} {base : Nat} {v : Value} {d : DataW H} {p : List MemPlace} (hv : Value.okWide Tryd.prog W .any base 34 v) (h : DataW.Trod enc Tryd.prog W 0 (fun _ => true) true 34 v d p)
    (hw : ∀ n ∈ d.weights Tryd.prog 34, n ≤ reachBytes) : ∃ l, Ints W v l := by
  obtain ⟨a, len, cap, rfl⟩ := okWide_slice Tryd.underlying34 hv
  obtain ⟨fuel, hf⟩ := h
  exact ints_of_trod hf hw
set_option maxRecDepth 100000 in
/-- A nil list has no room. -/
theorem list_nil_of {W : World} {base : Nat} {v : Value} {d : DataW H} {p : List MemPlace} (hv : Value.okWide Tryd.prog W .any base 34 v) (h : DataW.Trod enc Tryd.prog W 0 (fun _ => true) true 34 v d p) : ∀ A n c, v = .slice A n c → A = none → c = 0 := by
  obtain ⟨a, len, cap, rfl⟩ := okWide_slice Tryd.underlying34 hv
  obtain ⟨fuel, hf⟩ := h
  rintro A n c hA rfl
  simp only [Value.slice.injEq] at hA
  obtain ⟨rfl, rfl, rfl⟩ := hA
  have hf' : DataW.trod enc Tryd.prog W 0 (fun _ => true) true fuel 34 [.slice none len cap] = some (d, p) := hf
  rcases Go.ChangeShapes.open_ints Tryd.underlying34 Tryd.underlying3 cells_int hf' with ⟨hc, _⟩ | ⟨a, _, _, _, hc, _⟩
  · simp only [List.cons.injEq, Value.slice.injEq] at hc
    exact hc.1.2.2
  · simp at hc
theorem weight_of {P : Program} {ts : List TypeId} {ds : List (DataW H)} (h : (DataW.weightsEach P ts ds).all (· ≤ reachBytes) = true) {j : Nat} {t : TypeId} {d : DataW H} (ht : ts[j]? = some t) (hd : ds[j]? = some d) : ∀ n ∈ d.weights P t, n ≤ reachBytes := by
  intro n hn
  have := List.all_eq_true.1 h _ (DataW.weights_mem_each ht hd n hn)
  simpa using this
end
end Go.Proofs.YtphpablchlpagaaDoor
namespace Go.Proofs.YtphpablchlpagaaDoor
open Go.ChangeShapes Go.WideShapes Go.ChangeAt Go.RowKit
noncomputable def laidWorld2 (os : Os) : World :=
  let w0 := World.holding Tryd.prog os ⟨#[], #[], []⟩
  let put (h : Array Obj) (g : Nat) (cs : Array Value) : Array Obj := h.modify g fun
    | .cells _ t frozen => .cells cs t frozen
    | o => o
  { w0 with heap := put w0.heap 0 (Lib.deBruijn64tab.map fun z : Nat => Value.int .u8 z).toArray }
set_option maxRecDepth 1000000 in
theorem laid_met2 (os : Os) (args : Array Value) : laidMet Tryd.prog Rows.eulerKindsRow.laid ((laidWorld2 os).forCall (fun _ _ => 0) ⟨#[], args, []⟩).memory :=
  (LaidIn.of_run (l := Rows.eulerKindsRow.laid) [0] 8 (by kernel_rfl) (by kernel_rfl) (by kernel_rfl) (by kernel_rfl)).met
/-- The table of the least bit, out of the list. -/
theorem tab_of2 {W : World} (h : laidMetH Tryd.prog Rows.eulerKindsRow.laid W) : Tab W := by
  have h1 : laidMet Tryd.prog Rows.eulerKindsRow.laid W := h
  have h2 : laidMet Tryd.prog (("math/bits.deBruijn64tab", Lib.tabData .u8 (Lib.deBruijn64tab.map fun x : Nat => (x : Int))) :: Rows.eulerKindsRow.laid.drop 1) W := h1
  have h3 := Lib.tabIs_of_head gTab gTabType Tryd.underlying106 Tryd.underlying5 cellsU8 cellsTab h2
  intro j hj
  have h4 := h3.cell gTab j (by rw [List.length_map]; exact hj)
  rw [h4]
  have e : j < Lib.deBruijn64tab.length := hj
  simp [List.getD_eq_getElem?_getD, List.getElem?_eq_getElem e]
end Go.Proofs.YtphpablchlpagaaDoor
namespace Go.Proofs.YtphpablchlpagaaDoor
open Go.RowKit Go.Deep Go.ChangeShapes Go.WideShapes
/-- A slice of slices of ints, where a nil row has no room. -/
def RowsN (w : World) (v : Value) (m : List (List Int)) : Prop :=
  ∃ A cap, v = .slice A m.length cap ∧ m.length ≤ big ∧ ∀ i, i < m.length → ∃ b off Ar c, A = some ⟨b, off, none⟩ ∧ w.cell? ⟨b, off + i, none⟩ = some (.slice Ar (m.getD i []).length c) ∧ Ints w (.slice Ar (m.getD i []).length c) (m.getD i []) ∧ (Ar = none → c = 0)
theorem RowsN.rows {w : World} {v : Value} {m : List (List Int)} (h : RowsN w v m) : Rows w v m := by
  obtain ⟨A, cap, hv, hl, hc⟩ := h
  refine ⟨A, cap, hv, hl, fun i hi => ?_⟩
  obtain ⟨b, off, Ar, c, hA, hcell, hr, _⟩ := hc i hi
  exact ⟨b, off, _, hA, hcell, hr⟩
theorem RowsN.below {w w' : World} {v : Value} {m : List (List Int)} (h : RowsN w v m) (hb : Below w.heap.size w w') : RowsN w' v m := by
  obtain ⟨A, cap, hv, hl, hc⟩ := h
  refine ⟨A, cap, hv, hl, fun i hi => ?_⟩
  obtain ⟨b, off, Ar, c, hA, hcell, hr, hn⟩ := hc i hi
  exact ⟨b, off, Ar, c, hA, (hb.cell (p := ⟨b, off + i, none⟩) (World.block_lt_of_cell? _ _ hcell)).trans hcell, hr.below hb, hn⟩
section
variable {H : Type} {enc : TypeId × Value → H} {W : World} {base : Nat}
end
end Go.Proofs.YtphpablchlpagaaDoor
namespace Go.Proofs.YtphpablchlpagaaDoor
open Go.RowKit Go.Shelf
/-- Whether the one list of numbers comes before the other of as many. -/
def befB : List Int → List Int → Bool
  | x :: a, y :: b => if x = y then befB a b else decide (x < y)
  | _, _ => false
theorem befB_eq : ∀ l : List Int, befB l l = false
  | [] => rfl
  | x :: a => by rw [befB, if_pos rfl]; exact befB_eq a
theorem befB_lex : ∀ (l m : List Int), befB l m = true → lexLt l m
  | [], _, h => by simp [befB] at h
  | _ :: _, [], h => by simp [befB] at h
  | x :: a, y :: b, h => by
    by_cases e : x = y
    · rw [befB, if_pos e] at h
      exact .inr ⟨e, befB_lex a b h⟩
    · rw [befB, if_neg e] at h
      exact .inl (of_decide_eq_true h)
/-- A list's beginning. -/
theorem Ints.take {w : World} {A : Option Addr} {c : Nat} {l : List Int} (h : Ints w (.slice A l.length c) l) {k : Nat} (hk : k ≤ l.length) (d : Nat) : Ints w (.slice A k d) (l.take k) := by
  obtain ⟨A', c', hv, hl, hc⟩ := h
  simp only [Value.slice.injEq] at hv
  obtain ⟨rfl, -, rfl⟩ := hv
  have hlk : (l.take k).length = k := by simp; omega
  refine ⟨A, d, by rw [hlk], by omega, fun i hi => ?_⟩
  obtain ⟨b, off, hA, hcell⟩ := hc i (by omega)
  refine ⟨b, off, hA, ?_⟩
  rw [hcell]
  congr 2
  simp only [List.getD_eq_getElem?_getD, List.getElem?_take]
  rw [if_pos (by omega)]
end Go.Proofs.YtphpablchlpagaaDoor
namespace Go.Proofs.YtphpablchlpagaaDoor
open Go.RowKit Go.Shelf
/-- What Shortest returns beside what Rank does. -/
def ShortAs (r : Nat) (L : List Int) (c : Int) (l : List Int) : Prop := (r = 1 ∧ c = 0 ∧ l = L) ∨ (r ≠ 1 ∧ c = 4 ∧ l = [])
theorem Shortest_as (v : Value) (m : List (List Int)) (i0 : Nat) (c : Int) (l : List Int) (w : World) (hT : Tab w) (h : Rows w v m) (hv : validM m = true) (h12 : m.length ≤ 12) (hi0 : i0 < (imgF m).length)
    (hmin : ∀ j, j < (imgF m).length → szB (imgF m) i0 ≤ szB (imgF m) j) (hfirst : ∀ j, j < i0 → szB (imgF m) i0 < szB (imgF m) j) (hc : Hid (ShortAs (szB (imgF m) i0) (wordB (imgF m) i0) c l)) :
    Calls Tryd.prog 24 #[.agg #[v]] w fun e w' => ∃ A k, e = .returned (.tuple #[.slice A l.length k, .int .i64 c]) ∧ Ints w' (.slice A l.length k) l ∧ Below w.heap.size w w' := by
  refine (Shortest_ok v m w hT h hv h12).mono ?_
  rintro e w1 ⟨⟨i, r, hi, hs, hn, rfl, ho⟩ | ⟨hn, rfl⟩, hb⟩
  · have h1 := hmin i hi
    have h2 := szB_pos hv h12 hi0
    have hii : i = i0 := by
      rcases Nat.lt_trichotomy i i0 with e | e | e
      · have := hfirst i e; omega
      · exact e
      · have := hn i0 e; omega
    subst hii
    rcases hc.out with ⟨_, rfl, rfl⟩ | ⟨h3, _, _⟩
    · have hl := imgF_len hv h12 hi
      obtain ⟨A, k, rfl⟩ := ownsRow_slice ho
      exact ⟨A, k, rfl, Ints.of_own ho (by unfold big; omega), hb⟩
    · omega
  · rcases hc.out with ⟨h3, _, _⟩ | ⟨_, rfl, rfl⟩
    · exact absurd h3 (hn i0 hi0)
    · exact ⟨none, 0, rfl, Ints.nil _, hb⟩
/-- Any word leads to no fewer states than the rank; if to as many, then it is no shorter than the least word, nor before it. -/
theorem least_ok {m : List (List Int)} (hv : validM m = true) (h12 : m.length ≤ 12) {i0 : Nat} (hi0 : i0 < (imgF m).length) (hmin : ∀ j, j < (imgF m).length → szB (imgF m) i0 ≤ szB (imgF m) j) (hfirst : ∀ j, j < i0 → szB (imgF m) i0 < szB (imgF m) j)
    {ul : List Int} (hu : ul.all (inB 0 ((letters m : Int) - 1)) = true) : szB (imgF m) i0 ≤ (imageM m (allM m.length) ul).length ∧
      (szB (imgF m) i0 < (imageM m (allM m.length) ul).length ∨ (wordB (imgF m) i0).length < ul.length ∨ (ul.length = (wordB (imgF m) i0).length ∧ befB ul (wordB (imgF m) i0) = false)) := by
  obtain ⟨j, hj, hp, hle⟩ := imgF_has hv hu
  have hs := szB_image hv h12 hj hp
  rw [hs]
  have h1 := hmin j hj
  refine ⟨h1, ?_⟩
  by_cases h2 : szB (imgF m) i0 < szB (imgF m) j
  · exact .inl h2
  · right
    have hij : i0 ≤ j := Nat.le_of_not_lt fun hh => by have := hfirst j hh; omega
    have hSL : SLe (wordB (imgF m) i0) ul := by
      rcases Nat.lt_or_ge i0 j with e | e
      · exact .inr ((imgF_rise hv e hj).le hle)
      · obtain rfl : i0 = j := by omega
        exact hle
    rcases hSL with e | e | ⟨e, hlex⟩
    · right
      rw [e]; exact ⟨rfl, befB_eq _⟩
    · exact .inl e
    · right
      refine ⟨e.symm, ?_⟩
      cases hb : befB ul (wordB (imgF m) i0) with
      | false => rfl
      | true => exact absurd (lexLt.trans hlex (befB_lex _ _ hb)) (lexLt_irrefl _)
end Go.Proofs.YtphpablchlpagaaDoor
namespace Go.Proofs.YtphpablchlpagaaDoor
open Go.RowKit Go.Shelf
/-- The set is where some word leads from all states. -/
def RS (m : List (List Int)) (S : Nat) : Prop := S < 2 ^ m.length ∧ ∃ u : List Int, u.all (inB 0 ((letters m : Int) - 1)) = true ∧ imgWord m (2 ^ m.length - 1) u = S
theorem RS.start (m : List (List Int)) : RS m (2 ^ m.length - 1) := ⟨full_lt m, [], rfl, rfl⟩
theorem RS.word {m : List (List Int)} (hv : validM m = true) {S : Nat} (h : RS m S) {w : List Int} (hw : w.all (inB 0 ((letters m : Int) - 1)) = true) : RS m (imgWord m S w) := by
  obtain ⟨h1, u, h2, h3⟩ := h
  refine ⟨imgWord_lt hv w S h1 hw, u ++ w, by rw [List.all_append, h2, hw]; rfl, by rw [imgWord_append, h3]⟩
/-- No two states of the set are merged. -/
def NoMg (m : List (List Int)) (S : Nat) : Prop := ∀ p q, p ∈ elems S → q ∈ elems S → p ≠ q → mlen m p q = -1
theorem mem_of_testBit {S n s : Nat} (hS : S < 2 ^ n) (hn : n ≤ 64) : s ∈ elems S ↔ S.testBit s = true := by
  rw [mem_elems]
  constructor
  · exact fun h => h.2
  · refine fun h => ⟨?_, h⟩
    rcases Nat.lt_or_ge s 64 with h1 | h1
    · exact h1
    · have : 2 ^ n ≤ 2 ^ s := Nat.pow_le_pow_right (by decide) (by omega)
      rw [Nat.testBit_lt_two_pow (by omega)] at h; cases h
theorem setM_elems (S : Nat) : (intsOf (elems S)).length = (elems S).length := by simp [intsOf]
/-- No pair of the first i states is merged. -/
def NoTo (m : List (List Int)) (S i : Nat) : Prop := ∀ a b, b < a → a < i → mlen m ((elems S).getD a 0) ((elems S).getD b 0) = -1
theorem NoTo.all {m : List (List Int)} (hv : validM m = true) {S : Nat} (hS : S < 2 ^ m.length) (h : NoTo m S (elems S).length) : NoMg m S := by
  intro p q hp hq hpq
  obtain ⟨i, hi, rfl⟩ := List.mem_iff_getElem.1 hp
  obtain ⟨k, hk, rfl⟩ := List.mem_iff_getElem.1 hq
  have e : ∀ a (ha : a < (elems S).length), (elems S).getD a 0 = (elems S)[a] := fun a ha => by simp [List.getD_eq_getElem?_getD, List.getElem?_eq_getElem ha]
  rcases Nat.lt_trichotomy i k with h1 | h1 | h1
  · have := h k i h1 hk
    rw [e, e] at this
    rw [mlen_symm hv (elems_lt hS hp) (elems_lt hS hq)]; exact this
  · subst h1; exact absurd rfl hpq
  · have := h i k h1 hi
    rw [e, e] at this
    exact this
end Go.Proofs.YtphpablchlpagaaDoor
namespace Go.Proofs.YtphpablchlpagaaDoor
/-- Where two places come together, one letter brings two together. -/
theorem first_merge {m : List (List Int)} (hv : validM m = true) : ∀ (u : List Int) (p q : Nat), p < m.length → q < m.length → p ≠ q → WDm m u → runM m p u = runM m q u →
    ∃ (x p' q' : Nat), x < letters m ∧ p' < m.length ∧ q' < m.length ∧ p' ≠ q' ∧ roadsE m p' x = roadsE m q' x
  | [], p, q, _, _, hne, _, h => absurd h hne
  | x :: u, p, q, hp, hq, hne, hw, h => by
    have hx := hw x (by simp)
    obtain ⟨y, rfl⟩ := Int.eq_ofNat_of_zero_le hx.1
    have hy : y < letters m := by omega
    by_cases e : roadsE m p y = roadsE m q y
    · exact ⟨y, p, q, hy, hp, hq, hne, e⟩
    · exact first_merge hv u _ _ (roads_ok hv p y hp hy) (roads_ok hv q y hq hy) e (fun z hz => hw z (by simp [hz])) h
theorem szS_two {S n p q : Nat} (hS : S < 2 ^ n) (hn : n ≤ 64) (hpq : p ≠ q) (hp : S.testBit p = true) (hq : S.testBit q = true) : 2 ≤ szS S := by
  have := nodup_lenR (l := [p, q]) (k := elems S) (by simp [hpq]) (fun x hx => by
    rcases List.mem_cons.1 hx with rfl | hx
    · exact (mem_of_testBit hS hn).2 hp
    · obtain rfl : x = q := by simpa using hx
      exact (mem_of_testBit hS hn).2 hq)
  exact this
theorem szS_full {S n : Nat} (hS : S < 2 ^ n) (hn : n ≤ 64) (h : n ≤ szS S) {q : Nat} (hq : q < n) : S.testBit q = true := by
  apply Classical.byContradiction
  intro hb
  have h1 := szS_sum hS hn
  have h2 : sumI (bitI S) n < sumI (fun _ => 1) n := sumI_lt hq (by unfold bitI; rw [if_neg hb]; decide) (fun t _ => by
    unfold bitI
    by_cases h3 : S.testBit t = true
    · rw [if_pos h3]; exact Int.le_refl _
    · rw [if_neg h3]; decide)
  rw [sumI_const] at h2
  omega
/-- Words that extend step by step. -/
theorem grow_steps {m : List (List Int)} (hv : validM m = true) {c : Nat} (hext : ∀ S, S < 2 ^ m.length → 0 < szS S → szS S < m.length → ∃ w, WDm m w ∧ w.length ≤ c ∧ szS S < szS (preWord m S w)) {S : Nat} (hS : S < 2 ^ m.length) {b : Nat} (hb : 0 < b) {w0 : List Int} (hw0 : WDm m w0) (hb0 : b ≤ szS (preWord m S w0)) :
    ∀ j, ∃ w, WDm m w ∧ w.length ≤ w0.length + j * c ∧ (m.length ≤ szS (preWord m S w) ∨ b + j ≤ szS (preWord m S w))
  | 0 => ⟨w0, hw0, by simp, .inr hb0⟩
  | j + 1 => by
    obtain ⟨w, h1, h2, h3⟩ := grow_steps hv hext hS hb hw0 hb0 j
    by_cases hf : m.length ≤ szS (preWord m S w)
    · exact ⟨w, h1, Nat.le_trans h2 (Nat.add_le_add_left (Nat.mul_le_mul_right _ (by omega)) _), .inl hf⟩
    · obtain ⟨v, g1, g2, g3⟩ := hext _ (preWord_lt hv hS w) (by omega) (by omega)
      refine ⟨v ++ w, fun x hx => ?_, ?_, .inr ?_⟩
      · rcases List.mem_append.1 hx with hx | hx
        · exact g1 x hx
        · exact h1 x hx
      · rw [List.length_append, Nat.succ_mul]; omega
      · rw [preWord_append]; omega
/-- A word that takes a set of one state back to all leads all there. -/
theorem back_reset {m : List (List Int)} (hv : validM m = true) {t : Nat} (ht : t < m.length) {w : List Int} (hw : WDm m w) (h : m.length ≤ szS (preWord m (2 ^ t) w)) : ∀ s, s < m.length → runM m s w = t := fun s hs => by
  have hn : m.length ≤ 64 := by have := (valid_parts hv).2.1; omega
  have hS : 2 ^ t < 2 ^ m.length := Nat.pow_lt_pow_right (by decide) ht
  have h1 := szS_full (preWord_lt hv hS w) hn h hs
  rw [preWord_testBit hv _ w s hs hw.all, Nat.testBit_two_pow] at h1
  exact (decide_eq_true_iff.1 h1).symm
theorem grow_reset {m : List (List Int)} (hv : validM m = true) (hall : allMerge m) {c : Nat} (hext : ∀ S, S < 2 ^ m.length → 0 < szS S → szS S < m.length → ∃ w, WDm m w ∧ w.length ≤ c ∧ szS S < szS (preWord m S w)) :
    ∃ w t, WDm m w ∧ w.length ≤ 1 + (m.length - 2) * c ∧ t < m.length ∧ ∀ s, s < m.length → runM m s w = t := by
  obtain ⟨p1, p2, -⟩ := valid_parts hv
  have hn : m.length ≤ 64 := by omega
  by_cases h1 : m.length = 1
  · exact ⟨[], 0, fun x hx => by simp at hx, by simp, by omega, fun s hs => by show s = 0; omega⟩
  · obtain ⟨k, u, u1, u2, u3⟩ := hall 0 1 (by omega) (by omega)
    obtain ⟨x, p, q, hx, hp, hq, hpq, he⟩ := first_merge hv u 0 1 (by omega) (by omega) (by omega) (WDm.of_all u1) u3
    have ht := roads_ok hv p x hp hx
    have hS : 2 ^ roadsE m p x < 2 ^ m.length := Nat.pow_lt_pow_right (by decide) ht
    have hw0 : WDm m [(x : Int)] := fun y hy => by
      obtain rfl : y = (x : Int) := by simpa using hy
      omega
    have hbit : ∀ s, s < m.length → roadsE m s x = roadsE m p x → (preWord m (2 ^ roadsE m p x) [(x : Int)]).testBit s = true := fun s hs h => by
      rw [preWord_testBit hv _ _ s hs hw0.all, Nat.testBit_two_pow]
      exact decide_eq_true h.symm
    obtain ⟨w, g1, g2, g3⟩ := grow_steps hv hext hS (b := 2) (by decide) hw0 (szS_two (preWord_lt hv hS _) hn hpq (hbit p hp rfl) (hbit q hq he.symm)) (m.length - 2)
    exact ⟨w, roadsE m p x, g1, g2, ht, back_reset hv ht g1 (by omega)⟩
/-- Kari's bound. -/
theorem eul_word {m : List (List Int)} (hv : validM m = true) (he : eulM m) (hall : allMerge m) : ∃ w t, WDm m w ∧ w.length + 3 * m.length ≤ m.length * m.length + 3 ∧ t < m.length ∧ ∀ s, s < m.length → runM m s w = t := by
  obtain ⟨p1, p2, -⟩ := valid_parts hv
  obtain ⟨w, t, h1, h2, h3, h4⟩ := grow_reset hv hall (c := m.length - 1) (fun S hS h0 h1 => by
    obtain ⟨w, a, b, c⟩ := kari_more hv he hall hS h0 h1
    exact ⟨w, a, by omega, c⟩)
  refine ⟨w, t, h1, ?_, h3, h4⟩
  by_cases e : m.length = 1
  · rw [e] at h2 ⊢; simp at h2; omega
  · obtain ⟨d, hd⟩ : ∃ d, m.length = d + 2 := ⟨m.length - 2, by omega⟩
    rw [hd] at h2 ⊢
    have e1 : (d + 2 - 2) * (d + 2 - 1) = d * d + d := by
      rw [show d + 2 - 2 = d by omega, show d + 2 - 1 = d + 1 by omega, Nat.mul_succ]
    have e2 : (d + 2) * (d + 2) = d * d + 4 * d + 4 := by grind
    omega
end Go.Proofs.YtphpablchlpagaaDoor
namespace Go.Proofs.YtphpablchlpagaaDoor
open Go.RowKit Go.Shelf
theorem row_sum {m : List (List Int)} (hv : validM m = true) {s : Nat} (hs : s < m.length) (t : Nat) : ∀ y, y ≤ letters m → (timesL (flatTo m s y) (t : Int) : Int) = timesL (flatTo m s 0) (t : Int) + sumI (fun x => if roadsE m s x = t then 1 else 0) y
  | 0, _ => by simp [sumI]
  | y + 1, hy => by
    have hl := ((valid_parts hv).2.2.2.2 s hs).1
    have hn := (nx_ok hv hs (x := (y : Int)) (by omega) (by omega)).2
    rw [Int.toNat_natCast] at hn
    rw [flatTo_next (by omega), timesL_snocU, hn]
    have ih := row_sum hv hs t y (by omega)
    show _ = (timesL (flatTo m s 0) (t : Int) : Int) + (sumI (fun x => if roadsE m s x = t then 1 else 0) y + (if roadsE m s y = t then 1 else 0))
    have e : roadsE m s y = nx m s (y : Int) := rfl
    rw [e]
    by_cases h : nx m s (y : Int) = t
    · rw [if_pos h, if_pos (by omega)]; omega
    · rw [if_neg h, if_neg (by omega)]; omega
theorem all_sum {m : List (List Int)} (hv : validM m = true) (t : Nat) : ∀ s, s ≤ m.length → (timesL (flatTo m s 0) (t : Int) : Int) = sumI (fun q => sumI (fun x => if roadsE m q x = t then 1 else 0) (letters m)) s
  | 0, _ => by simp [flatTo, timesL, sumI]
  | s + 1, hs => by
    have hl := ((valid_parts hv).2.2.2.2 s (by omega)).1
    rw [flatTo_row (by omega) hl, row_sum hv (by omega) t _ (Nat.le_refl _), all_sum hv t s (by omega)]
    rfl
theorem inR_times {m : List (List Int)} (hv : validM m = true) (t : Nat) : inR m t = timesL m.flatten (t : Int) := by
  rw [← flatTo_end, all_sum hv t _ (Nat.le_refl _)]; rfl
theorem eulB_eulM {m : List (List Int)} (hv : validM m = true) : eulB m = true ↔ eulM m := by
  rw [eulB_iff]
  constructor
  · intro h t ht
    rw [inR_times hv, h t ht]
  · intro h t ht
    have := h t ht
    rw [inR_times hv] at this
    omega
/-- Where one letter leads from state 0. -/
def itM (m : List (List Int)) (x : Int) : Nat → Nat
  | 0 => 0
  | i + 1 => nx m (itM m x i) x
def seenM (m : List (List Int)) (x : Int) : Nat → Nat
  | 0 => 0
  | i + 1 => seenM m x i ||| 2 ^ itM m x i
def cycB (m : List (List Int)) (x : Int) : Bool := (itM m x m.length == 0) && (seenM m x m.length == 2 ^ m.length - 1)
theorem itM_lt {m : List (List Int)} (hv : validM m = true) {x : Nat} (hx : x < letters m) : ∀ i, itM m (x : Int) i < m.length
  | 0 => (valid_parts hv).1
  | i + 1 => (nx_ok hv (itM_lt hv hx i) (by omega) (by omega)).1
theorem seenM_lt {m : List (List Int)} (hv : validM m = true) {x : Nat} (hx : x < letters m) : ∀ i, seenM m (x : Int) i < 2 ^ m.length
  | 0 => Nat.two_pow_pos _
  | i + 1 => Nat.or_lt_two_pow (seenM_lt hv hx i) (Nat.pow_lt_pow_right (by decide) (itM_lt hv hx i))
end Go.Proofs.YtphpablchlpagaaDoor
namespace Go.Proofs.YtphpablchlpagaaDoor
open Go.RowKit Go.Shelf
set_option maxRecDepth 100000 in
set_option maxHeartbeats 4000000 in
theorem cycles_any (v : Value) (m : List (List Int)) (x : Nat) (w : World) (h : Rows w v m) (hv : validM m = true) (hx : x < letters m) :
    Calls Tryd.prog 33 #[.agg #[v], .int .i64 x] w fun e w' => e = .returned (.bool (cycB m x)) ∧ Below w.heap.size w w' := by
  obtain ⟨p1, p2, p3, p4, p5⟩ := valid_parts hv
  obtain ⟨A, cap, rfl, hml, hc⟩ := id h
  unfold big at hml
  have hX := bal (Below.refl _ w) (.cells #[.slice A m.length cap] 24)
  have hbx : (w.alloc (.cells #[.slice A m.length cap] 24)).cell? ⟨w.heap.size, 0, none⟩ = some (.slice A m.length cap) := by simp [go_sem]
  have Hc := hid hc
  clear hc
  have hpow : 2 ^ m.length ≤ 2 ^ 60 := Nat.pow_le_pow_right (by decide) p2
  have Hpow := hid hpow
  clear hpow
  go_enter Tryd.func33, Tryd.ntmps33
  go_wp2_with fail
  go_loopw [5, 6, 10] (fun S' s' iv wr => ∃ i : Nat, i ≤ m.length ∧ iv = .int .i64 i ∧ S' = .int .u64 (seenM m x i : Nat) ∧ s' = .int .i64 (itM m x i : Nat) ∧ Below w.heap.size w wr ∧ wr.cell? ⟨w.heap.size, 0, none⟩ = some (.slice A m.length cap)) (fun _ _ iv _ => m.length - (intOf iv).toNat)
  case atStart => exact ⟨0, Nat.zero_le _, rfl, rfl, rfl, hX, hbx⟩
  case round =>
    clear hX hbx
    obtain ⟨i, hi, rfl, rfl, rfl, hB, hbx⟩ := hrel
    have hs := itM_lt hv hx i
    have hS := seenM_lt hv hx i
    have hS64 : seenM m x i < 2 ^ 64 := by have := Hpow.out; omega
    by_cases hlt : i < m.length
    · have hii : (i : Int) < m.length := by omega
      have hid' : decide (i < m.length) = true := decide_eq_true hlt
      have hn1 : seenM m x (i + 1) = seenM m x i ||| 2 ^ itM m x i := rfl
      have hn2 : itM m x (i + 1) = nx m (itM m x i) x := rfl
      have Hn1 := hid hn1
      have Hn2 := hid hn2
      clear hn1 hn2
      generalize seenM m x i = S at *
      generalize itM m x i = s at *
      obtain ⟨b, off, r, hA, hcell, hI⟩ := Hc.out s hs
      subst hA
      obtain ⟨As, caps, rfl, hls, hcs⟩ := hI
      have hrl := (p5 s hs).1
      obtain ⟨bs, offs, hAs, hce⟩ := hcs x (by omega)
      subst hAs
      obtain ⟨n1, n2⟩ := nx_ok hv hs (x := (x : Int)) (by omega) (by omega)
      rw [Int.toNat_natCast] at n2
      rw [n2] at hce
      rw [hrl] at hcell
      obtain ⟨q, hq⟩ : ∃ q, nx m s (x : Int) = q := ⟨_, rfl⟩
      rw [hq] at hce
      have Hq := hid hq
      have hcell' := (hB.cell (p := ⟨b, off + s, none⟩) (World.block_lt_of_cell? _ _ hcell)).trans hcell
      have hce' := (hB.cell (p := ⟨bs, offs + x, none⟩) (World.block_lt_of_cell? _ _ hce)).trans hce
      have hss : (s : Int) < m.length := by omega
      have hxx : (x : Int) < letters m := by omega
      clear hcell hce hcs hls hrl hq n2
      go_wp2_with (go_at_call 59; refine (With_any S s _ hS64 (by omega)).mono ?_; rintro e w' ⟨rfl, rfl⟩)
      go_roundw
      case rel => exact ⟨i + 1, by omega, by go_num, by rw [Hn1.out], by rw [Hn2.out, Hq.out], hB, hbx⟩
      case measure => simp [intOf]; omega
    · have hii : ¬ (i : Int) < m.length := by omega
      have hid' : decide (i < m.length) = false := decide_eq_false hlt
      obtain rfl : i = m.length := by omega
      obtain ⟨a, ha⟩ : ∃ a, itM m x m.length = a := ⟨_, rfl⟩
      obtain ⟨S, hS'⟩ : ∃ a, seenM m x m.length = a := ⟨_, rfl⟩
      have hcy : cycB m x = ((a == 0) && (S == 2 ^ m.length - 1)) := by unfold cycB; rw [ha, hS']
      rw [ha, hS'] at *
      have Hcy := hid hcy
      clear ha hS' hcy
      obtain ⟨N, hN⟩ : ∃ N, 2 ^ m.length - 1 = N := ⟨_, rfl⟩
      have HBl := hid (fun W : World => (show Calls Tryd.prog 47 #[.int .i64 m.length] W fun e w' => e = .returned (.int .u64 (N : Nat)) ∧ W = w' from by rw [← hN]; exact Below_any m.length W p2))
      rw [hN] at Hcy
      clear hN
      by_cases a0 : a = 0
      · subst a0
        by_cases s0 : S = N
        · subst s0
          go_wp2_with (go_at_call 47; refine (HBl.out _).mono ?_; rintro e w' ⟨rfl, rfl⟩)
          go_ret
          rw [Hcy.out]
          exact ⟨by simp, hB⟩
        · have s1 : ¬ (S : Int) = N := by omega
          have s2 : ((S : Int) == N) = false := beq_eq_false_iff_ne.2 s1
          have s3 : (S == N) = false := by simpa using s0
          go_wp2_with (go_at_call 47; refine (HBl.out _).mono ?_; rintro e w' ⟨rfl, rfl⟩)
          go_ret
          rw [Hcy.out]
          exact ⟨by simp [s3], hB⟩
      · have a1 : ¬ (a : Int) = 0 := by omega
        have a2 : ((a : Int) == 0) = false := beq_eq_false_iff_ne.2 a1
        have a3 : (a == 0) = false := by simpa using a0
        go_wp2_with (go_at_call 47; refine (HBl.out _).mono ?_; rintro e w' ⟨rfl, rfl⟩)
        go_ret
        rw [Hcy.out]
        exact ⟨by simp [a3], hB⟩
theorem cycles_bool (v : Value) (m : List (List Int)) (x : Nat) (b : Bool) (w : World) (h : Rows w v m) (hv : validM m = true) (hx : x < letters m) (hb : cycB m x = b) :
    Calls Tryd.prog 33 #[.agg #[v], .int .i64 x] w fun e w' => e = .returned (.bool b) ∧ Below w.heap.size w w' := by
  rw [← hb]; exact cycles_any v m x w h hv hx
theorem Eulerian_form (v : Value) (m : List (List Int)) (w : World) (h : Rows w v m) (hv : validM m = false) :
    Calls Tryd.prog 9 #[.agg #[v]] w fun e w' => e = .returned (.tuple #[.bool false, .int .i64 1]) ∧ Below w.heap.size w w' := by
  have hr := h.alloc (.cells #[v] 24)
  obtain ⟨A, cap, rfl, hml, hc⟩ := h
  clear hc
  go_enter Tryd.func9, Tryd.ntmps9
  go_wp2_with fail
  refine (Valid_bool _ m false _ hr hv).mono ?_
  rintro e w1 ⟨rfl, hb1⟩
  go_wp2
  go_ret2
  exact ⟨rfl, btr (bal (Below.refl _ _) _) hb1⟩
theorem Eulerian_ok (v : Value) (m : List (List Int)) (b : Bool) (w : World) (h : Rows w v m) (hv : validM m = true) (hb : eulB m = b) :
    Calls Tryd.prog 9 #[.agg #[v]] w fun e w' => e = .returned (.tuple #[.bool b, .int .i64 0]) ∧ Below w.heap.size w w' := by
  have hr := h
  obtain ⟨A, cap, rfl, hml, hc⟩ := h
  clear hc
  have hX := bal (Below.refl _ w) (.cells #[.slice A m.length cap] 24)
  have hbx : (w.alloc (.cells #[.slice A m.length cap] 24)).cell? ⟨w.heap.size, 0, none⟩ = some (.slice A m.length cap) := by simp [go_sem]
  have Hb := hid hb
  clear hb
  go_enter Tryd.func9, Tryd.ntmps9
  go_wp2_with fail
  refine (Valid_bool _ m true _ (hr.below hX) hv).mono ?_
  rintro e w1 ⟨rfl, hb1⟩
  have hbx1 := (hb1.cell (p := ⟨w.heap.size, 0, none⟩) (World.block_lt_of_cell? _ _ hbx)).trans hbx
  have hr1 := hr.below (btr hX hb1)
  go_wp2_with fail
  refine (eulerian_any _ m _ hr1 hv).mono ?_
  rintro e w2 ⟨rfl, hb2⟩
  rw [Hb.out]
  go_wp2_with fail
  go_ret2
  exact ⟨rfl, btr (btr hX hb1) hb2⟩
/-- What Circular returns. -/
def CircIs (m : List (List Int)) (x : Nat) (c : Int) : Prop :=
  (x < letters m ∧ cycB m (x : Int) = true ∧ (∀ y : Nat, y < x → cycB m (y : Int) = false) ∧ c = 0) ∨ ((∀ y : Nat, y < letters m → cycB m (y : Int) = false) ∧ x = 0 ∧ c = 4)
theorem Circular_form (v : Value) (m : List (List Int)) (w : World) (h : Rows w v m) (hv : validM m = false) :
    Calls Tryd.prog 10 #[.agg #[v]] w fun e w' => e = .returned (.tuple #[.int .i64 0, .int .i64 1]) ∧ Below w.heap.size w w' := by
  have hr := h.alloc (.cells #[v] 24)
  obtain ⟨A, cap, rfl, hml, hc⟩ := h
  clear hc
  go_enter Tryd.func10, Tryd.ntmps10
  go_wp2_with fail
  refine (Valid_bool _ m false _ hr hv).mono ?_
  rintro e w1 ⟨rfl, hb1⟩
  go_wp2
  go_ret2
  exact ⟨rfl, btr (bal (Below.refl _ _) _) hb1⟩
theorem Circular_ok (v : Value) (m : List (List Int)) (w : World) (h : Rows w v m) (hv : validM m = true) :
    Calls Tryd.prog 10 #[.agg #[v]] w fun e w' => ∃ (x : Nat) (c : Int), e = .returned (.tuple #[.int .i64 x, .int .i64 c]) ∧ CircIs m x c ∧ Below w.heap.size w w' := by
  obtain ⟨p1, p2, p3, p4, p5⟩ := valid_parts hv
  have hr := h
  obtain ⟨A, cap, rfl, hml, hc⟩ := h
  obtain ⟨b0, off0, r0, hA, hc0, A0, cap0, hr0, -, -⟩ := hc 0 (by omega)
  subst hA
  subst hr0
  have hc0 : w.cell? ⟨b0, off0, none⟩ = some (.slice A0 (letters m) cap0) := hc0
  clear hc
  have hX := bal (Below.refl _ w) (.cells #[.slice (some ⟨b0, off0, none⟩) m.length cap] 24)
  have hbx : (w.alloc (.cells #[.slice (some ⟨b0, off0, none⟩) m.length cap] 24)).cell? ⟨w.heap.size, 0, none⟩ = some (.slice (some ⟨b0, off0, none⟩) m.length cap) := by simp [go_sem]
  go_enter Tryd.func10, Tryd.ntmps10
  go_wp2_with fail
  refine (Valid_bool _ m true _ (hr.below hX) hv).mono ?_
  rintro e w1 ⟨rfl, hb1⟩
  have hbx1 := (hb1.cell (p := ⟨w.heap.size, 0, none⟩) (World.block_lt_of_cell? _ _ hbx)).trans hbx
  have hB1 := btr hX hb1
  have hc1 := (hB1.cell (p := ⟨b0, off0, none⟩) (World.block_lt_of_cell? _ _ hc0)).trans hc0
  clear hbx hX hb1
  go_wp2_with fail
  go_loopw [13] (fun xv wr => ∃ x : Nat, x ≤ letters m ∧ xv = .int .i64 x ∧ (∀ y : Nat, y < x → cycB m (y : Int) = false) ∧ Below w.heap.size w wr ∧ wr.cell? ⟨w.heap.size, 0, none⟩ = some (.slice (some ⟨b0, off0, none⟩) m.length cap)) (fun xv _ => letters m - (intOf xv).toNat)
  case atStart => exact ⟨0, Nat.zero_le _, rfl, fun y h => by omega, hB1, hbx1⟩
  case round =>
    clear hB1 hbx1 hc1
    obtain ⟨x, hx, rfl, hpre, hB, hbx⟩ := hrel
    have Hpre := hid hpre
    clear hpre
    by_cases hlt : x < letters m
    · have hxx : (x : Int) < letters m := by omega
      have hxd : decide (x < letters m) = true := decide_eq_true hlt
      have hrr := hr.below hB
      cases hcy : cycB m (x : Int) with
      | true =>
        have Hcy := hid hcy
        go_wp2_with fail
        refine (cycles_bool _ m x true _ hrr hv hlt Hcy.out).mono ?_
        rintro e w2 ⟨rfl, hb2⟩
        clear hcy
        go_wp2_with fail
        go_ret2
        exact ⟨x, 0, rfl, .inl ⟨hlt, Hcy.out, Hpre.out, rfl⟩, btr hB hb2⟩
      | false =>
        have Hcy := hid hcy
        go_wp2_with fail
        refine (cycles_bool _ m x false _ hrr hv hlt Hcy.out).mono ?_
        rintro e w2 ⟨rfl, hb2⟩
        have hbx2 := (hb2.cell (p := ⟨w.heap.size, 0, none⟩) (World.block_lt_of_cell? _ _ hbx)).trans hbx
        clear hcy
        go_wp2_with fail
        go_roundw
        case rel => exact ⟨x + 1, by omega, by go_num, fun y hy => by
          by_cases e : y = x
          · subst e; exact Hcy.out
          · exact Hpre.out y (by omega), btr hB hb2, hbx2⟩
        case measure => simp [intOf]; omega
    · have hxx : ¬ (x : Int) < letters m := by omega
      have hxd : decide (x < letters m) = false := decide_eq_false hlt
      obtain rfl : x = letters m := by omega
      go_wp2_with fail
      go_ret2
      exact ⟨0, 4, rfl, .inr ⟨Hpre.out, rfl, rfl⟩, hB⟩
end Go.Proofs.YtphpablchlpagaaDoor
namespace Go.Proofs.YtphpablchlpagaaDoor
open Go.RowKit Go.Shelf
def circB (m : List (List Int)) : Bool := (List.range (letters m)).any fun y : Nat => cycB m (y : Int)
theorem CircIs.zero {m : List (List Int)} {x : Nat} {c : Int} (h : CircIs m x c) : (c == 0) = circB m := by
  rcases h with ⟨h1, h2, -, rfl⟩ | ⟨h1, -, rfl⟩
  · have : circB m = true := List.any_eq_true.2 ⟨x, List.mem_range.2 h1, h2⟩
    rw [this]; rfl
  · have : circB m = false := by
      unfold circB
      rw [List.any_eq_false]
      exact fun y hy => by rw [h1 y (List.mem_range.1 hy)]; simp
    rw [this]; rfl
theorem circular_any (v : Value) (m : List (List Int)) (b : Bool) (w : World) (h : Rows w v m) (hv : validM m = true) (hb : circB m = b) :
    Calls Tryd.prog 61 #[.agg #[v]] w fun e w' => e = .returned (.bool b) ∧ Below w.heap.size w w' := by
  have hr := h
  obtain ⟨A, cap, rfl, hml, hc⟩ := h
  clear hc
  have hX := bal (Below.refl _ w) (.cells #[.slice A m.length cap] 24)
  have hbx : (w.alloc (.cells #[.slice A m.length cap] 24)).cell? ⟨w.heap.size, 0, none⟩ = some (.slice A m.length cap) := by simp [go_sem]
  have Hb := hid hb
  clear hb
  go_enter Tryd.func61, Tryd.ntmps61
  go_wp2_with fail
  refine (Circular_ok _ m _ (hr.below hX) hv).mono ?_
  rintro e w1 ⟨x, c, rfl, hC, hb1⟩
  have hcz := hC.zero
  rw [Hb.out] at hcz
  have HC := hid hC
  clear hC
  cases b with
  | true =>
    obtain rfl : c = 0 := by simpa using hcz
    go_wp2_with fail
    go_ret
    exact ⟨rfl, btr hX hb1⟩
  | false =>
    have hc0 : ¬ c = 0 := by simpa using hcz
    go_wp2_with fail
    go_ret
    exact ⟨rfl, btr hX hb1⟩
theorem holds3_any (v : Value) (w : World) :
    Calls Tryd.prog 63 #[.agg #[v]] w fun e w' => e = .returned (.bool true) ∧ Below w.heap.size w w' := by
  have hX := bal (Below.refl _ w) (.cells #[v] 24)
  go_enter Tryd.func63, Tryd.ntmps63
  go_wp2_with fail
  go_ret
  exact ⟨rfl, hX⟩
theorem sq_le {n : Nat} (hn : n ≤ 60) : (n : Int) * n ≤ 3600 ∧ 0 ≤ (n : Int) * n := by
  have h1 : n * n ≤ 60 * 60 := Nat.mul_le_mul hn hn
  have e : (n : Int) * n = ((n * n : Nat) : Int) := by simp
  rw [e]; omega
theorem let1_any (n : Nat) (w : World) (hn : n ≤ 60) :
    Calls Tryd.prog 60 #[.int .i64 n] w fun e w' => e = .returned (.int .i64 ((n : Int) * n - 3 * n + 3)) ∧ w' = w := by
  have h := sq_le hn
  have h1 : IntKind.i64.wrap ((n : Int) * n) = (n : Int) * n := IntWalk.i64_in _ (by omega)
  have h2 : IntKind.i64.wrap ((n : Int) * n - 3 * n) = (n : Int) * n - 3 * n := IntWalk.i64_in _ (by omega)
  have h3 : IntKind.i64.wrap ((n : Int) * n - 3 * n + 3) = (n : Int) * n - 3 * n + 3 := IntWalk.i64_in _ (by omega)
  go_enter Tryd.func60, Tryd.ntmps60
  go_wp2_with fail
  go_ret
  exact ⟨rfl, rfl⟩
theorem let2_any (n : Nat) (w : World) (h1 : 1 ≤ n) (hn : n ≤ 60) :
    Calls Tryd.prog 62 #[.int .i64 n] w fun e w' => e = .returned (.int .i64 (((n : Int) - 1) * (n - 1))) ∧ w' = w := by
  obtain ⟨k, rfl⟩ : ∃ k, n = k + 1 := ⟨n - 1, by omega⟩
  have h := sq_le (n := k) (by omega)
  have e0 : ((k + 1 : Nat) : Int) - 1 = k := by omega
  rw [e0]
  have h1 : IntKind.i64.wrap ((k : Int) * k) = (k : Int) * k := IntWalk.i64_in _ (by omega)
  have h2 : IntKind.i64.wrap (((k + 1 : Nat) : Int) - 1) = k := by rw [e0]; exact IntWalk.i64_in _ (by omega)
  generalize hq : (k : Int) * k = q at *
  go_enter Tryd.func62, Tryd.ntmps62
  go_wp2_with fail
  go_ret
  exact ⟨by simp, rfl⟩
theorem let4_any (n : Nat) (w : World) (h1 : 1 ≤ n) (hn : n ≤ 60) :
    Calls Tryd.prog 64 #[.int .i64 n] w fun e w' => e = .returned (.int .i64 (((n * n * n - n) / 6 : Nat) : Int)) ∧ w' = w := by
  have h := sq_le hn
  have hc : n * n * n ≤ 60 * 60 * 60 := Nat.mul_le_mul (Nat.mul_le_mul hn hn) hn
  have hge : n ≤ n * n * n := by
    have := Nat.mul_le_mul (Nat.mul_le_mul h1 h1) (Nat.le_refl n)
    simpa using this
  obtain ⟨q, hq⟩ : ∃ q, n * n * n = q := ⟨_, rfl⟩
  have hq2 : (n : Int) * n * n = (q : Int) := by rw [← hq]; simp
  rw [hq] at hc hge
  rw [show (n * n * n - n) / 6 = (q - n) / 6 by rw [hq]]
  have w1 : IntKind.i64.wrap ((n : Int) * n) = (n : Int) * n := IntWalk.i64_in _ (by omega)
  have w2 : IntKind.i64.wrap ((n : Int) * n * n) = (q : Int) := by rw [hq2]; exact IntWalk.i64_in _ (by omega)
  have hqq := hid hq
  clear hq
  go_enter Tryd.func64, Tryd.ntmps64
  go_wp2_with fail
  go_ret
  refine ⟨?_, rfl⟩
  rw [show (((q - n) / 6 : Nat) : Int) = ((q : Int) - n) / 6 by omega]
  rfl
theorem bounds_any (w : World) :
    Calls Tryd.prog 35 #[] w fun e w' => e = .returned (.slice (some ⟨w.heap.size, 0, none⟩) 3 3) ∧ Below w.heap.size w w' ∧
      w'.cell? ⟨w.heap.size, 0, none⟩ = some (.func (.func 32) #[] #[]) ∧ w'.cell? ⟨w.heap.size, 1, none⟩ = some (.func (.func 60) #[] #[]) ∧
      w'.cell? ⟨w.heap.size, 2, none⟩ = some (.func (.func 61) #[] #[]) ∧ w'.cell? ⟨w.heap.size, 3, none⟩ = some (.func (.func 62) #[] #[]) ∧
      w'.cell? ⟨w.heap.size, 4, none⟩ = some (.func (.func 63) #[] #[]) ∧ w'.cell? ⟨w.heap.size, 5, none⟩ = some (.func (.func 64) #[] #[]) := by
  go_enter Tryd.func35, Tryd.ntmps35
  go_wp2_with fail
  go_ret
  refine ⟨rfl, bal (Below.refl _ w) _, ?_, ?_, ?_, ?_, ?_, ?_⟩
  all_goals simp [go_sem]
theorem eulerian_bool (v : Value) (m : List (List Int)) (b : Bool) (w : World) (h : Rows w v m) (hv : validM m = true) (hb : eulB m = b) :
    Calls Tryd.prog 32 #[.agg #[v]] w fun e w' => e = .returned (.bool b) ∧ Below w.heap.size w w' := by
  rw [← hb]; exact eulerian_any v m w h hv
def lenV : Value → Nat
  | .slice _ n _ => n
  | _ => 0
/-- How many letters suffice. -/
def bndM (m : List (List Int)) : Int := if eulB m = true then (m.length : Int) * m.length - 3 * m.length + 3 else if circB m = true then ((m.length : Int) - 1) * (m.length - 1) else (((m.length * m.length * m.length - m.length) / 6 : Nat) : Int)
def BoundRes (w : World) (x c : Int) (e : Ending) (w' : World) : Prop := e = .returned (.tuple #[.int .i64 x, .int .i64 c]) ∧ Below w.heap.size w w'
theorem Bound_form (v : Value) (m : List (List Int)) (w : World) (h : Rows w v m) (hv : validM m = false) :
    Calls Tryd.prog 11 #[.agg #[v]] w (BoundRes w 0 1) := by
  have hr := h
  obtain ⟨A, cap, rfl, hml, hc⟩ := h
  clear hc
  have hX := bal (Below.refl _ w) (.cells #[.slice A m.length cap] 24)
  have hbx : (w.alloc (.cells #[.slice A m.length cap] 24)).cell? ⟨w.heap.size, 0, none⟩ = some (.slice A m.length cap) := by simp [go_sem]
  go_enter Tryd.func11, Tryd.ntmps11
  go_wp2_with fail
  refine (Apart_form _ m _ (hr.below hX) hv).mono ?_
  rintro e w1 ⟨rfl, hb1⟩
  go_wp2_with fail
  go_ret2
  exact ⟨rfl, btr hX hb1⟩
theorem Bound_none (v : Value) (m : List (List Int)) (w : World) (h : Rows w v m) (hv : validM m = true) (hno : ¬ allMerge m) :
    Calls Tryd.prog 11 #[.agg #[v]] w (BoundRes w 0 4) := by
  have hr := h
  obtain ⟨A, cap, rfl, hml, hc⟩ := h
  clear hc
  have hX := bal (Below.refl _ w) (.cells #[.slice A m.length cap] 24)
  have hbx : (w.alloc (.cells #[.slice A m.length cap] 24)).cell? ⟨w.heap.size, 0, none⟩ = some (.slice A m.length cap) := by simp [go_sem]
  have hne : (apartL m).length ≠ 0 := fun e => hno ((apartL_nil hv).1 (List.eq_nil_of_length_eq_zero e))
  have HP := hid (fun W hW => Apart_ok (.slice A m.length cap) m W hW hv)
  generalize apartL m = L at *
  have d1 : (0 : Int) < L.length := by omega
  have d2 : decide ((0 : Int) < L.length) = true := decide_eq_true d1
  have d3 : decide (0 < L.length) = true := decide_eq_true (by omega)
  go_enter Tryd.func11, Tryd.ntmps11
  go_wp2_with fail
  refine (HP.out _ (hr.below hX)).mono ?_
  rintro e w1 ⟨r, rfl, ho, hb1⟩
  obtain ⟨A4, c4, rfl⟩ := ownsRow_slice ho
  clear ho
  go_wp2_with fail
  go_ret2
  exact ⟨rfl, btr hX hb1⟩
set_option maxRecDepth 100000 in
set_option maxHeartbeats 8000000 in
theorem Bound_ok (v : Value) (m : List (List Int)) (w : World) (h : Rows w v m) (hv : validM m = true) (hall : allMerge m) :
    Calls Tryd.prog 11 #[.agg #[v]] w (BoundRes w (bndM m) 0) := by
  obtain ⟨p1, p2, -⟩ := valid_parts hv
  have hr := h
  obtain ⟨A, cap, rfl, hml, hc⟩ := h
  clear hc
  have hX := bal (Below.refl _ w) (.cells #[.slice A m.length cap] 24)
  have hbx : (w.alloc (.cells #[.slice A m.length cap] 24)).cell? ⟨w.heap.size, 0, none⟩ = some (.slice A m.length cap) := by simp [go_sem]
  have HP := hid (fun W hW => by
    have := Apart_ok (.slice A m.length cap) m W hW hv
    rw [(apartL_nil hv).2 hall] at this
    exact this)
  go_enter Tryd.func11, Tryd.ntmps11
  go_wp2_with fail
  refine (HP.out _ (hr.below hX)).mono ?_
  rintro e w1 ⟨r, rfl, ho, hb1⟩
  obtain ⟨A4, c4, rfl⟩ := ownsRow_slice ho
  have hbx1 := (hb1.cell (p := ⟨w.heap.size, 0, none⟩) (World.block_lt_of_cell? _ _ hbx)).trans hbx
  have hB1 := btr hX hb1
  clear ho hbx hX hb1
  go_wp2_with fail
  refine (bounds_any _).mono ?_
  rintro e w2 ⟨rfl, hb2, c0, c1, c2, c3, c4, c5⟩
  have hbx2 := (hb2.cell (p := ⟨w.heap.size, 0, none⟩) (World.block_lt_of_cell? _ _ hbx1)).trans hbx1
  have hB2 := btr hB1 hb2
  have hB0 := hB1.size
  generalize w1.heap.size = B at *
  clear hbx1 hB1 hb2
  go_wp2_with fail
  go_loopw [6] (fun lv wr => (lv = .slice (some ⟨B, 0, none⟩) 3 3 ∨ (eulB m = false ∧ lv = .slice (some ⟨B, 2, none⟩) 2 2) ∨ (eulB m = false ∧ circB m = false ∧ lv = .slice (some ⟨B, 4, none⟩) 1 1)) ∧ Below w2.heap.size w2 wr) (fun lv _ => lenV lv)
  case atStart => exact ⟨.inl rfl, Below.refl _ _⟩
  case round =>
    obtain ⟨hk, hB⟩ := hrel
    have hbx := (hB.cell (p := ⟨w.heap.size, 0, none⟩) (World.block_lt_of_cell? _ _ hbx2)).trans hbx2
    have q0 := (hB.cell (p := ⟨B, 0, none⟩) (World.block_lt_of_cell? _ _ c0)).trans c0
    have q1 := (hB.cell (p := ⟨B, 1, none⟩) (World.block_lt_of_cell? _ _ c1)).trans c1
    have q2 := (hB.cell (p := ⟨B, 2, none⟩) (World.block_lt_of_cell? _ _ c2)).trans c2
    have q3 := (hB.cell (p := ⟨B, 3, none⟩) (World.block_lt_of_cell? _ _ c3)).trans c3
    have q4 := (hB.cell (p := ⟨B, 4, none⟩) (World.block_lt_of_cell? _ _ c4)).trans c4
    have q5 := (hB.cell (p := ⟨B, 5, none⟩) (World.block_lt_of_cell? _ _ c5)).trans c5
    have hBw := btr hB2 hB
    have hrr := hr.below hBw
    have HB2 := hid hB2
    clear hbx2 c0 c1 c2 c3 c4 c5 hB2
    obtain ⟨wo, rfl⟩ : ∃ wo : World, wo = wr := ⟨_, rfl⟩
    rcases hk with rfl | ⟨he, rfl⟩ | ⟨he, hcf, rfl⟩
    · cases hb : eulB m with
      | true =>
        have Hb := hid hb
        clear hb
        go_upto_region 7 with fail
        go_cut [25] from 19 to 25 (fun t wc => t = .bool (!true) ∧ Below wo.heap.size wo wc)
        case first =>
          go_region_held (fun w' => Below wo.heap.size wo w' ∧ w'.cell? ⟨w.heap.size, 0, none⟩ = some (.slice A m.length cap) ∧ w'.cell? ⟨B, 0, none⟩ = some (.func (.func 32) #[] #[])) (exact held_pair hbx q0 (by first | exact below_dr wo 1 | assumption)) (first
            | (go_at_call 32; go_must (refine (eulerian_bool _ m true _ (hrr.below (by first | exact below_dr wo 1 | exact Below.refl _ _)) hv Hb.out).mono ?_; rintro e y1 ⟨rfl, hy1⟩; have k1 : Below wo.heap.size wo y1 := btr (by first | exact below_dr wo 1 | exact Below.refl _ _) hy1)))
          all_goals (go_wp2_with fail; go_meet; exact ⟨rfl, k1⟩)
        case rest =>
          obtain ⟨rfl, C0⟩ := hcut
          have d0 := (C0.cell (p := ⟨w.heap.size, 0, none⟩) (World.block_lt_of_cell? _ _ hbx)).trans hbx
          have d1 := (C0.cell (p := ⟨B, 1, none⟩) (World.block_lt_of_cell? _ _ q1)).trans q1
          obtain ⟨wz, rfl⟩ : ∃ wz : World, wz = wc := ⟨_, rfl⟩
          go_upto_region 9 with fail
          go_region_held (fun w' => Below wz.heap.size wz w' ∧ w'.cell? ⟨w.heap.size, 0, none⟩ = some (.slice A m.length cap) ∧ w'.cell? ⟨B, 1, none⟩ = some (.func (.func 60) #[] #[])) (exact held_pair d0 d1 (by first | exact below_dr wz 1 | assumption)) (first
            | (go_at_call 60; go_must (refine (let1_any m.length _ p2).mono ?_; rintro e y1 ⟨rfl, hy1⟩; have k1 : Below wz.heap.size wz y1 := (by rw [hy1]; first | exact below_dr wz 1 | exact Below.refl _ _); clear hy1)))
          all_goals (go_wp2_with fail; go_ret2; exact ⟨by rw [show bndM m = _ from if_pos Hb.out]; rfl, btr hBw (btr C0 k1)⟩)
      | false =>
        have Hb := hid hb
        clear hb
        go_upto_region 7 with fail
        go_cut [25] from 19 to 25 (fun t wc => t = .bool (!false) ∧ Below wo.heap.size wo wc)
        case first =>
          go_region_held (fun w' => Below wo.heap.size wo w' ∧ w'.cell? ⟨w.heap.size, 0, none⟩ = some (.slice A m.length cap) ∧ w'.cell? ⟨B, 0, none⟩ = some (.func (.func 32) #[] #[])) (exact held_pair hbx q0 (by first | exact below_dr wo 1 | assumption)) (first
            | (go_at_call 32; go_must (refine (eulerian_bool _ m false _ (hrr.below (by first | exact below_dr wo 1 | exact Below.refl _ _)) hv Hb.out).mono ?_; rintro e y1 ⟨rfl, hy1⟩; have k1 : Below wo.heap.size wo y1 := btr (by first | exact below_dr wo 1 | exact Below.refl _ _) hy1)))
          all_goals (go_wp2_with fail; go_meet; exact ⟨rfl, k1⟩)
        case rest =>
          obtain ⟨rfl, C0⟩ := hcut
          go_wp2_with fail
          go_roundw
          case rel => exact ⟨.inr (.inl ⟨by first | trivial | exact Hb.out, rfl⟩), btr hB C0⟩
          case measure => simp [lenV]
    · have He := hid he
      clear he
      cases hb : circB m with
      | true =>
        have Hb := hid hb
        clear hb
        go_upto_region 7 with fail
        go_cut [25] from 19 to 25 (fun t wc => t = .bool (!true) ∧ Below wo.heap.size wo wc)
        case first =>
          go_region_held (fun w' => Below wo.heap.size wo w' ∧ w'.cell? ⟨w.heap.size, 0, none⟩ = some (.slice A m.length cap) ∧ w'.cell? ⟨B, 2, none⟩ = some (.func (.func 61) #[] #[])) (exact held_pair hbx q2 (by first | exact below_dr wo 1 | assumption)) (first
            | (go_at_call 61; go_must (refine (circular_any _ m true _ (hrr.below (by first | exact below_dr wo 1 | exact Below.refl _ _)) hv Hb.out).mono ?_; rintro e y1 ⟨rfl, hy1⟩; have k1 : Below wo.heap.size wo y1 := btr (by first | exact below_dr wo 1 | exact Below.refl _ _) hy1)))
          all_goals (go_wp2_with fail; go_meet; exact ⟨rfl, k1⟩)
        case rest =>
          obtain ⟨rfl, C0⟩ := hcut
          have d0 := (C0.cell (p := ⟨w.heap.size, 0, none⟩) (World.block_lt_of_cell? _ _ hbx)).trans hbx
          have d1 := (C0.cell (p := ⟨B, 3, none⟩) (World.block_lt_of_cell? _ _ q3)).trans q3
          obtain ⟨wz, rfl⟩ : ∃ wz : World, wz = wc := ⟨_, rfl⟩
          go_upto_region 9 with fail
          go_region_held (fun w' => Below wz.heap.size wz w' ∧ w'.cell? ⟨w.heap.size, 0, none⟩ = some (.slice A m.length cap) ∧ w'.cell? ⟨B, 3, none⟩ = some (.func (.func 62) #[] #[])) (exact held_pair d0 d1 (by first | exact below_dr wz 1 | assumption)) (first
            | (go_at_call 62; go_must (refine (let2_any m.length _ p1 p2).mono ?_; rintro e y1 ⟨rfl, hy1⟩; have k1 : Below wz.heap.size wz y1 := (by rw [hy1]; first | exact below_dr wz 1 | exact Below.refl _ _); clear hy1)))
          all_goals (go_wp2_with fail; go_ret2; exact ⟨by rw [show bndM m = _ from (if_neg (by rw [He.out]; decide)).trans (if_pos Hb.out)]; rfl, btr hBw (btr C0 k1)⟩)
      | false =>
        have Hb := hid hb
        clear hb
        go_upto_region 7 with fail
        go_cut [25] from 19 to 25 (fun t wc => t = .bool (!false) ∧ Below wo.heap.size wo wc)
        case first =>
          go_region_held (fun w' => Below wo.heap.size wo w' ∧ w'.cell? ⟨w.heap.size, 0, none⟩ = some (.slice A m.length cap) ∧ w'.cell? ⟨B, 2, none⟩ = some (.func (.func 61) #[] #[])) (exact held_pair hbx q2 (by first | exact below_dr wo 1 | assumption)) (first
            | (go_at_call 61; go_must (refine (circular_any _ m false _ (hrr.below (by first | exact below_dr wo 1 | exact Below.refl _ _)) hv Hb.out).mono ?_; rintro e y1 ⟨rfl, hy1⟩; have k1 : Below wo.heap.size wo y1 := btr (by first | exact below_dr wo 1 | exact Below.refl _ _) hy1)))
          all_goals (go_wp2_with fail; go_meet; exact ⟨rfl, k1⟩)
        case rest =>
          obtain ⟨rfl, C0⟩ := hcut
          go_wp2_with fail
          go_roundw
          case rel => exact ⟨.inr (.inr ⟨by first | trivial | exact He.out, by first | trivial | exact Hb.out, rfl⟩), btr hB C0⟩
          case measure => simp [lenV]
    · have He := hid he
      have Hf := hid hcf
      clear he hcf
      go_upto_region 7 with fail
      go_cut [25] from 19 to 25 (fun t wc => t = .bool (!true) ∧ Below wo.heap.size wo wc)
      case first =>
        go_region_held (fun w' => Below wo.heap.size wo w' ∧ w'.cell? ⟨w.heap.size, 0, none⟩ = some (.slice A m.length cap) ∧ w'.cell? ⟨B, 4, none⟩ = some (.func (.func 63) #[] #[])) (exact held_pair hbx q4 (by first | exact below_dr wo 1 | assumption)) (first
          | (go_at_call 63; go_must (refine (holds3_any _ _).mono ?_; rintro e y1 ⟨rfl, hy1⟩; have k1 : Below wo.heap.size wo y1 := btr (by first | exact below_dr wo 1 | exact Below.refl _ _) hy1)))
        all_goals (go_wp2_with fail; go_meet; exact ⟨rfl, k1⟩)
      case rest =>
        obtain ⟨rfl, C0⟩ := hcut
        have d0 := (C0.cell (p := ⟨w.heap.size, 0, none⟩) (World.block_lt_of_cell? _ _ hbx)).trans hbx
        have d1 := (C0.cell (p := ⟨B, 5, none⟩) (World.block_lt_of_cell? _ _ q5)).trans q5
        obtain ⟨wz, rfl⟩ : ∃ wz : World, wz = wc := ⟨_, rfl⟩
        go_upto_region 9 with fail
        go_region_held (fun w' => Below wz.heap.size wz w' ∧ w'.cell? ⟨w.heap.size, 0, none⟩ = some (.slice A m.length cap) ∧ w'.cell? ⟨B, 5, none⟩ = some (.func (.func 64) #[] #[])) (exact held_pair d0 d1 (by first | exact below_dr wz 1 | assumption)) (first
          | (go_at_call 64; go_must (refine (let4_any m.length _ p1 p2).mono ?_; rintro e y1 ⟨rfl, hy1⟩; have k1 : Below wz.heap.size wz y1 := (by rw [hy1]; first | exact below_dr wz 1 | exact Below.refl _ _); clear hy1)))
        all_goals (go_wp2_with fail; go_ret2; exact ⟨by rw [show bndM m = _ from (if_neg (by rw [He.out]; decide)).trans (if_neg (by rw [Hf.out]; decide))]; rfl, btr hBw (btr C0 k1)⟩)
end Go.Proofs.YtphpablchlpagaaDoor
namespace Go.Proofs.YtphpablchlpagaaDoor
open Go.RowKit Go.Shelf
def m6a : List (List Int) := [[1, 0], [2, 1], [0, 2]]
def m6b : List (List Int) := [[0, 1], [0, 2], [1, 2]]
theorem m6a_valid : validM m6a = true := by decide +kernel
theorem m6b_valid : validM m6b = true := by decide +kernel
theorem m6a_eul : eulB m6a = true := by decide +kernel
theorem m6a_cyc : cycB m6a ((0 : Nat) : Int) = true := by decide +kernel
theorem m6a_apart : (apartL m6a).length ≠ 0 := by decide +kernel
theorem m6b_apart : apartL m6b = [] := by decide +kernel
theorem m6b_bnd : bndM m6b = 3 := by decide +kernel
theorem m6a_none : ¬ allMerge m6a := fun h => m6a_apart (by rw [(apartL_nil m6a_valid).2 h]; rfl)
theorem m6b_all : allMerge m6b := (apartL_nil m6b_valid).1 m6b_apart
theorem m6b_big : szS 1 < szS (preWord m6b 1 [0]) := by decide +kernel
theorem m6b_first {u : List Int} (h : FirstBig m6b 1 u) : u = [0] := by
  obtain ⟨h1, h2, h3⟩ := h
  rcases h3 [0] (fun x hx => by
    obtain rfl : x = 0 := by simpa using hx
    exact ⟨by decide, by decide +kernel⟩) m6b_big with e | e | ⟨e, k⟩
  · exact e
  · obtain rfl : u = [] := List.eq_nil_of_length_eq_zero (by simpa using e)
    exact absurd h2 (Nat.lt_irrefl _)
  · match u, e with
    | [y], _ =>
      have hy := h1 y (by simp)
      rcases k with k | ⟨rfl, k⟩
      · omega
      · exact absurd k (by simp [lexLt])
theorem circ_m6a (v : Value) (w : World) (h : Rows w v m6a) : Calls Tryd.prog 10 #[.agg #[v]] w fun e w' => e = .returned (.tuple #[.int .i64 0, .int .i64 0]) ∧ Below w.heap.size w w' := by
  refine (Circular_ok v m6a w h m6a_valid).mono ?_
  rintro e w1 ⟨x, c, rfl, ⟨h1, h2, h3, rfl⟩ | ⟨h1, rfl, rfl⟩, hb⟩
  · by_cases e : x = 0
    · subst e; exact ⟨rfl, hb⟩
    · have := h3 0 (by omega)
      rw [m6a_cyc] at this
      cases this
  · have := h1 0 (by decide +kernel)
    rw [m6a_cyc] at this
    cases this
theorem extend_m6b (v s : Value) (w : World) (hT : Tab w) (h : Rows w v m6b) (hs : Ints w s [0]) : Calls Tryd.prog 17 #[.agg #[v], s] w fun e w' => ∃ A c, e = .returned (.tuple #[.slice A 1 c, .int .i64 0]) ∧ Ints w' (.slice A 1 c) [0] ∧ Below w.heap.size w w' := by
  refine (Extend_ok v s m6b [0] w hT h hs m6b_valid (by decide +kernel) (by decide)).mono ?_
  rintro e w1 ⟨⟨u, r, h1, h2, rfl, ho⟩ | ⟨h1, -⟩, hb⟩
  · rw [m6b_first h1] at ho
    have hi : Ints w1 r [0] := Ints.of_own ho (by decide)
    obtain ⟨A, c, rfl, _⟩ := id hi
    exact ⟨A, c, rfl, hi, hb⟩
  · exact absurd m6b_big (h1 [0] (fun x hx => by
      obtain rfl : x = 0 := by simpa using hx
      exact ⟨by decide, by decide +kernel⟩))
set_option maxRecDepth 100000 in
set_option maxHeartbeats 4000000 in
theorem awake6_any (w : World) (hT : Tab w) :
    Calls Tryd.prog 13 #[] w fun e w' => e = .returned (.bool true) ∧ Below w.heap.size w w' := by
  go_enter Tryd.func13, Tryd.ntmps13
  go_upto_region 2 with fail
  have hRa := (lit_rows w 1 0 2 1 0 2).alloc (.cells #[.slice (some ⟨w.heap.size + 1 + 1 + 1, 0, none⟩) 3 3] 24)
  have hX1 : Below w.heap.size w (((((w.alloc (.cells #[.int .i64 1, .int .i64 0] 3)).alloc (.cells #[.int .i64 2, .int .i64 1] 3)).alloc (.cells #[.int .i64 0, .int .i64 2] 3)).alloc (.cells #[.slice (some ⟨w.heap.size, 0, none⟩) 2 2, .slice (some ⟨w.heap.size + 1, 0, none⟩) 2 2, .slice (some ⟨w.heap.size + 1 + 1, 0, none⟩) 2 2] 34)).alloc (.cells #[.slice (some ⟨w.heap.size + 1 + 1 + 1, 0, none⟩) 3 3] 24)) := bal (bal (bal (bal (bal (Below.refl _ w) _) _) _) _) _
  have c1 := (Boxed.new ((((w.alloc (.cells #[.int .i64 1, .int .i64 0] 3)).alloc (.cells #[.int .i64 2, .int .i64 1] 3)).alloc (.cells #[.int .i64 0, .int .i64 2] 3)).alloc (.cells #[.slice (some ⟨w.heap.size, 0, none⟩) 2 2, .slice (some ⟨w.heap.size + 1, 0, none⟩) 2 2, .slice (some ⟨w.heap.size + 1 + 1, 0, none⟩) 2 2] 34)) 24 (.slice (some ⟨w.heap.size + 1 + 1 + 1, 0, none⟩) 3 3)).cell
  simp only [World.size_alloc] at c1
  generalize hXX : ((((w.alloc (.cells #[.int .i64 1, .int .i64 0] 3)).alloc (.cells #[.int .i64 2, .int .i64 1] 3)).alloc (.cells #[.int .i64 0, .int .i64 2] 3)).alloc (.cells #[.slice (some ⟨w.heap.size, 0, none⟩) 2 2, .slice (some ⟨w.heap.size + 1, 0, none⟩) 2 2, .slice (some ⟨w.heap.size + 1 + 1, 0, none⟩) 2 2] 34)).alloc (.cells #[.slice (some ⟨w.heap.size + 1 + 1 + 1, 0, none⟩) 3 3] 24) = X at *
  clear hXX
  generalize hva : Value.slice (some ⟨w.heap.size + 1 + 1 + 1, 0, none⟩) 3 3 = va at *
  obtain ⟨ga, rfl⟩ : ∃ g, va = .slice (some ⟨g, 0, none⟩) 3 3 := ⟨_, hva.symm⟩
  clear hva
  have hRa' : Rows X (.slice (some ⟨ga, 0, none⟩) 3 3) m6a := hRa
  clear hRa
  generalize w.heap.size + 1 + 1 + 1 + 1 = B at *
  generalize Value.slice (some ⟨w.heap.size, 0, none⟩) 2 2 = z1 at *
  generalize Value.slice (some ⟨w.heap.size + 1, 0, none⟩) 2 2 = z2 at *
  generalize Value.slice (some ⟨w.heap.size + 1 + 1, 0, none⟩) 2 2 = z3 at *
  go_upto_region 3 with fail
  have hRb := (lit_rows X 0 1 0 2 1 2).alloc (.cells #[.slice (some ⟨X.heap.size + 1 + 1 + 1, 0, none⟩) 3 3] 24)
  have hX2 : Below X.heap.size X (((((X.alloc (.cells #[.int .i64 0, .int .i64 1] 3)).alloc (.cells #[.int .i64 0, .int .i64 2] 3)).alloc (.cells #[.int .i64 1, .int .i64 2] 3)).alloc (.cells #[.slice (some ⟨X.heap.size, 0, none⟩) 2 2, .slice (some ⟨X.heap.size + 1, 0, none⟩) 2 2, .slice (some ⟨X.heap.size + 1 + 1, 0, none⟩) 2 2] 34)).alloc (.cells #[.slice (some ⟨X.heap.size + 1 + 1 + 1, 0, none⟩) 3 3] 24)) := bal (bal (bal (bal (bal (Below.refl _ X) _) _) _) _) _
  have c2 := (Boxed.new ((((X.alloc (.cells #[.int .i64 0, .int .i64 1] 3)).alloc (.cells #[.int .i64 0, .int .i64 2] 3)).alloc (.cells #[.int .i64 1, .int .i64 2] 3)).alloc (.cells #[.slice (some ⟨X.heap.size, 0, none⟩) 2 2, .slice (some ⟨X.heap.size + 1, 0, none⟩) 2 2, .slice (some ⟨X.heap.size + 1 + 1, 0, none⟩) 2 2] 34)) 24 (.slice (some ⟨X.heap.size + 1 + 1 + 1, 0, none⟩) 3 3)).cell
  simp only [World.size_alloc] at c2
  have c1 := (hX2.cell (p := ⟨B, 0, none⟩) (World.block_lt_of_cell? _ _ c1)).trans c1
  have hRa := hRa'.below hX2
  have hB := btr hX1 hX2
  clear hRa' hX2 hX1
  generalize hYY : ((((X.alloc (.cells #[.int .i64 0, .int .i64 1] 3)).alloc (.cells #[.int .i64 0, .int .i64 2] 3)).alloc (.cells #[.int .i64 1, .int .i64 2] 3)).alloc (.cells #[.slice (some ⟨X.heap.size, 0, none⟩) 2 2, .slice (some ⟨X.heap.size + 1, 0, none⟩) 2 2, .slice (some ⟨X.heap.size + 1 + 1, 0, none⟩) 2 2] 34)).alloc (.cells #[.slice (some ⟨X.heap.size + 1 + 1 + 1, 0, none⟩) 3 3] 24) = Y at *
  clear hYY
  generalize hva : Value.slice (some ⟨X.heap.size + 1 + 1 + 1, 0, none⟩) 3 3 = va at *
  obtain ⟨gb, rfl⟩ : ∃ g, va = .slice (some ⟨g, 0, none⟩) 3 3 := ⟨_, hva.symm⟩
  clear hva
  have hRb' : Rows Y (.slice (some ⟨gb, 0, none⟩) 3 3) m6b := hRb
  clear hRb
  generalize X.heap.size + 1 + 1 + 1 + 1 = C at *
  go_wp2_with fail
  refine (Eulerian_ok _ m6a true Y hRa m6a_valid m6a_eul).mono ?_
  rintro e y1 ⟨rfl, h1⟩
  have c1 := (h1.cell (p := ⟨B, 0, none⟩) (World.block_lt_of_cell? _ _ c1)).trans c1
  have c2 := (h1.cell (p := ⟨C, 0, none⟩) (World.block_lt_of_cell? _ _ c2)).trans c2
  have hRa := hRa.below h1
  have hRb := hRb'.below h1
  have hB := btr hB h1
  clear hRb' h1
  go_wp2_with fail
  refine (circ_m6a _ y1 hRa).mono ?_
  rintro e y2 ⟨rfl, h1⟩
  have c1 := (h1.cell (p := ⟨B, 0, none⟩) (World.block_lt_of_cell? _ _ c1)).trans c1
  have c2 := (h1.cell (p := ⟨C, 0, none⟩) (World.block_lt_of_cell? _ _ c2)).trans c2
  have hRa := hRa.below h1
  have hRb := hRb.below h1
  have hB := btr hB h1
  clear h1
  go_wp2_with fail
  refine (Bound_none _ m6a y2 hRa m6a_valid m6a_none).mono ?_
  rintro e y3 ⟨rfl, h1⟩
  have c2 := (h1.cell (p := ⟨C, 0, none⟩) (World.block_lt_of_cell? _ _ c2)).trans c2
  have hRb := hRb.below h1
  have hB := btr hB h1
  clear h1
  go_wp2_with fail
  refine (Bound_ok _ m6b y3 hRb m6b_valid m6b_all).mono ?_
  rw [m6b_bnd]
  rintro e y4 ⟨rfl, h1⟩
  have c2 := (h1.cell (p := ⟨C, 0, none⟩) (World.block_lt_of_cell? _ _ c2)).trans c2
  have hRb := hRb.below h1
  have hB := btr hB h1
  clear h1
  go_wp2_with fail
  have hX4 := bal (Below.refl _ y4) (.cells #[.int .i64 0] 3)
  refine (extend_m6b _ _ _ (hT.on (btr hB hX4)) (hRb.below hX4) (Ints.one' y4 0 3 _ rfl)).mono ?_
  rintro e y5 ⟨A5, k5, rfl, i5, h1⟩
  have hB := btr hB (btr hX4 h1)
  clear h1 hX4 hRb c2
  go_wp2_with fail
  refine (rSame_eq _ _ [0] _ (i5.alloc _) (Ints.one' y5 0 3 _ rfl)).mono ?_
  rintro e y6 ⟨rfl, h1⟩
  go_wp2
  go_ret
  exact ⟨rfl, btr hB (btr (bal (Below.refl _ y5) _) h1)⟩
end Go.Proofs.YtphpablchlpagaaDoor
namespace Go.Proofs.YtphpablchlpagaaDoor
open Go.RowKit Go.Shelf
theorem set_size {m : List (List Int)} (hv : validM m = true) {sl : List Int} (hs : isSetM m sl = true) : szS (ofList sl) = sl.length := by
  have hn : m.length ≤ 64 := by have := (valid_parts hv).2.1; omega
  have h1 := isSetM_mem hs
  have hS := ofList_lt m.length hn sl h1
  have hsort : sl.Pairwise (· < ·) := sorted_of_incr (by simp only [isSetM, Bool.and_eq_true] at hs; exact hs.1)
  have hmem : ∀ x : Nat, x ∈ elems (ofList sl) ↔ x ∈ sl.map Int.toNat := fun x => by
    rw [mem_of_testBit hS hn, ofList_testBit, List.any_eq_true, List.mem_map]
    simp
  have hnd : (sl.map Int.toNat).Nodup := List.pairwise_map.2 (hsort.imp_of_mem fun {a b} ha hb hab => by
    have := h1 a ha
    have := h1 b hb
    omega)
  have a1 := nodup_lenR hnd (fun x hx => (hmem x).2 hx)
  have a2 := nodup_lenR (elems_nodup (ofList sl)) (fun x hx => (hmem x).1 hx)
  rw [List.length_map] at a1 a2
  unfold szS
  omega
theorem FirstBig.len {m : List (List Int)} {S : Nat} {u w : List Int} (h : FirstBig m S u) (hw : WDm m w) (hb : szS S < szS (preWord m S w)) : u.length ≤ w.length := by
  rcases h.2.2 w hw hb with e | e | ⟨e, _⟩
  · rw [e]; exact Nat.le_refl _
  · omega
  · omega
theorem first_word {m : List (List Int)} {S : Nat} {u : List Int} (h : FirstBig m S u) (hl : u.length ≤ 4096) : isWordM m u = true := by
  simp only [isWordM, Bool.and_eq_true, decide_eq_true_eq]
  exact ⟨by omega, h.1.all⟩
/-- What is asked of Extend's word. -/
theorem kari_word {m : List (List Int)} (hv : validM m = true) {sl u : List Int} (hs : isSetM m sl = true) (h0 : sl.length ≠ 0) (hn : sl.length ≠ m.length) (hb : eulB m = true) (hall : allMerge m) (h : FirstBig m (ofList sl) u) : u.length + 1 ≤ m.length := by
  have hm : m.length ≤ 64 := by have := (valid_parts hv).2.1; omega
  have hsz := set_size hv hs
  have hS := ofList_lt m.length hm sl (isSetM_mem hs)
  have hle := szS_le hS hm
  obtain ⟨w, h1, h2, h3⟩ := kari_more hv ((eulB_eulM hv).1 hb) hall hS (by omega) (by omega)
  have := h.len h1 h3
  omega
theorem kari_some {m : List (List Int)} (hv : validM m = true) {sl : List Int} (hs : isSetM m sl = true) (h0 : sl.length ≠ 0) (hn : sl.length ≠ m.length) (hb : eulB m = true) (hall : allMerge m) (hno : ∀ u, WDm m u → ¬ szS (ofList sl) < szS (preWord m (ofList sl) u)) : False := by
  have hm : m.length ≤ 64 := by have := (valid_parts hv).2.1; omega
  have hsz := set_size hv hs
  have hS := ofList_lt m.length hm sl (isSetM_mem hs)
  have hle := szS_le hS hm
  obtain ⟨w, h1, h2, h3⟩ := kari_more hv ((eulB_eulM hv).1 hb) hall hS (by omega) (by omega)
  exact hno w h1 h3
theorem pre_longer {m : List (List Int)} (hv : validM m = true) {sl u : List Int} (hs : isSetM m sl = true) (h : FirstBig m (ofList sl) u) : sl.length < (preimageM m sl u).length := by
  have e : (preimageM m sl u).length = szS (preWord m (ofList sl) u) := by unfold preimageM; rw [setM_elems]; rfl
  rw [e, ← set_size hv hs]; exact h.2.1
end Go.Proofs.YtphpablchlpagaaDoor
namespace Go.Proofs.YtphpablchlpagaaDoor
open Go.RowKit Go.Shelf
def togTo (m : List (List Int)) (sl : List Int) : Nat → Nat
  | 0 => 0
  | x + 1 => togTo m sl x + (preimageM m sl [(x : Int)]).length
theorem pre_size (m : List (List Int)) (sl : List Int) (x : Nat) : (preimageM m sl [(x : Int)]).length = szS (preSet m (ofList sl) (x : Int)) := by
  unfold preimageM; rw [setM_elems]; rfl
theorem togTo_sum (m : List (List Int)) (sl : List Int) : ∀ k, (togTo m sl k : Int) = sumI (fun x : Nat => (szS (preSet m (ofList sl) (x : Int)) : Int)) k
  | 0 => rfl
  | k + 1 => by
    show ((togTo m sl k + (preimageM m sl [(k : Int)]).length : Nat) : Int) = sumI _ k + (szS (preSet m (ofList sl) (k : Int)) : Int)
    rw [← togTo_sum m sl k, pre_size]; omega
theorem togTo_le (m : List (List Int)) (sl : List Int) : ∀ k, togTo m sl k ≤ 64 * k
  | 0 => Nat.le_refl _
  | k + 1 => by
    have h1 := togTo_le m sl k
    have h2 : (preimageM m sl [(k : Int)]).length ≤ 64 := by rw [pre_size]; exact elems_length _
    show togTo m sl k + (preimageM m sl [(k : Int)]).length ≤ 64 * (k + 1)
    omega
theorem tog_eul {m : List (List Int)} (hv : validM m = true) {sl : List Int} (hs : isSetM m sl = true) (he : eulB m = true) : togTo m sl (letters m) = letters m * sl.length := by
  have hn : m.length ≤ 64 := by have := (valid_parts hv).2.1; omega
  have hS := ofList_lt m.length hn sl (isSetM_mem hs)
  have h1 := togTo_sum m sl (letters m)
  rw [eul_size hv ((eulB_eulM hv).1 he) hS, set_size hv hs] at h1
  have e : ((letters m : Int) * sl.length) = ((letters m * sl.length : Nat) : Int) := by simp
  omega
theorem one_set {m : List (List Int)} {s : Nat} (hs : s < m.length) : isSetM m [(s : Int)] = true := isSetM_of_sorted (List.pairwise_singleton _ _) fun x hx => by
  obtain rfl : x = (s : Int) := by simpa using hx
  omega
theorem one_bit {m : List (List Int)} {s : Nat} (hs : s < m.length) (t : Nat) : bitI (ofList [(s : Int)]) t = if s = t then 1 else 0 := by
  unfold bitI
  rw [ofList_testBit]
  by_cases e : s = t
  · subst e; simp
  · simp [e]
theorem tog_one {m : List (List Int)} (hv : validM m = true) {s : Nat} (hs : s < m.length) : (togTo m [(s : Int)] (letters m) : Int) = inR m s := by
  have hn : m.length ≤ 64 := by have := (valid_parts hv).2.1; omega
  have hS := ofList_lt m.length hn _ (isSetM_mem (one_set hs))
  rw [togTo_sum]
  have e1 : sumI (fun x : Nat => (szS (preSet m (ofList [(s : Int)]) (x : Int)) : Int)) (letters m) = sumI (fun x => sumI (fun q => bitI (ofList [(s : Int)]) (roadsE m q x)) m.length) (letters m) := sumI_congr fun x hx => pre_one hv hS hx
  rw [e1, in_sum hv]
  have e2 : sumI (fun t => bitI (ofList [(s : Int)]) t * inR m t) m.length = sumI (fun t => if s = t then inR m t else 0) m.length := sumI_congr fun t _ => by
    rw [one_bit hs]
    by_cases e : s = t
    · rw [if_pos e, if_pos e]; simp
    · rw [if_neg e, if_neg e]; simp
  rw [e2, sumI_one, if_pos hs]
theorem tog_all {m : List (List Int)} (hv : validM m = true) : eulB m = true ↔ ∀ s, s < m.length → togTo m [(s : Int)] (letters m) = letters m := by
  rw [eulB_eulM hv]
  constructor
  · intro h s hs
    have := tog_one hv hs
    rw [h s hs] at this
    omega
  · intro h s hs
    rw [← tog_one hv hs, h s hs]
set_option maxRecDepth 100000 in
set_option maxHeartbeats 4000000 in
theorem together_any (v u1 : Value) (m : List (List Int)) (sl : List Int) (w : World) (hT : Tab w) (h : Rows w v m) (hs : Ints w u1 sl) (hv : validM m = true) (ha : isSetM m sl = true) :
    Calls Tryd.prog 25 #[.agg #[v], u1] w fun e w' => e = .returned (.tuple #[.int .i64 (togTo m sl (letters m) : Nat), .bool true]) ∧ Below w.heap.size w w' := by
  obtain ⟨p1, p2, p3, p4, -⟩ := valid_parts hv
  obtain ⟨A, cap, rfl, hml, -⟩ := id h
  obtain ⟨As, caps, rfl, hls, -⟩ := id hs
  have hX := bal (Below.refl _ w) (.cells #[.slice A m.length cap] 24)
  have hbx : (w.alloc (.cells #[.slice A m.length cap] 24)).cell? ⟨w.heap.size, 0, none⟩ = some (.slice A m.length cap) := by simp [go_sem]
  go_enter Tryd.func25, Tryd.ntmps25
  go_wp2_with fail
  go_loopw [6, 7] (fun nv xv wr => ∃ x : Nat, x ≤ letters m ∧ xv = .int .i64 x ∧ nv = .int .i64 (togTo m sl x : Nat) ∧ Below w.heap.size w wr ∧ wr.cell? ⟨w.heap.size, 0, none⟩ = some (.slice A m.length cap)) (fun _ xv _ => letters m - (intOf xv).toNat)
  case atStart => exact ⟨0, Nat.zero_le _, rfl, rfl, hX, hbx⟩
  case round =>
    clear hX hbx
    obtain ⟨x, hx, rfl, rfl, hB, hbx⟩ := hrel
    have hle := togTo_le m sl x
    have hnx : togTo m sl (x + 1) = togTo m sl x + (preimageM m sl [(x : Int)]).length := rfl
    have hp64 : (preimageM m sl [(x : Int)]).length ≤ 64 := by rw [pre_size]; exact elems_length _
    go_wp2_with fail
    refine (rLetters_any _ m _ (h.below hB) hv).mono ?_
    rintro e w1 ⟨rfl, h1⟩
    have hbx1 := (h1.cell (p := ⟨w.heap.size, 0, none⟩) (World.block_lt_of_cell? _ _ hbx)).trans hbx
    have hB1 := btr hB h1
    clear hbx hB h1
    by_cases hlt : x < letters m
    · have hxx : (x : Int) < letters m := by omega
      have hxd : decide (x < letters m) = true := decide_eq_true hlt
      have hw1 : isWordM m [(x : Int)] = true := by
        simp only [isWordM, Bool.and_eq_true, decide_eq_true_eq]
        exact ⟨by simp, by simp only [List.all_cons, List.all_nil, Bool.and_true]; exact inB_true (by omega)⟩
      have hX1 := bal (Below.refl _ w1) (.cells #[.int .i64 x] 3)
      have hbx2 := (hX1.cell (p := ⟨w.heap.size, 0, none⟩) (World.block_lt_of_cell? _ _ hbx1)).trans hbx1
      have Hnx := hid hnx
      clear hnx
      go_wp2_with fail
      refine (Preimage_ok _ _ _ m sl [(x : Int)] _ (hT.on (btr hB1 hX1)) (h.below (btr hB1 hX1)) (hs.below (btr hB1 hX1)) (Ints.one' w1 (x : Int) 3 _ rfl) hv ha hw1).mono ?_
      rintro e w2 ⟨r, rfl, hi, h2⟩
      have hbx3 := (h2.cell (p := ⟨w.heap.size, 0, none⟩) (World.block_lt_of_cell? _ _ hbx2)).trans hbx2
      have hB2 := btr (btr hB1 hX1) h2
      obtain ⟨Ar, cr, rfl, -, -⟩ := id hi
      generalize (preimageM m sl [(x : Int)]).length = pl at *
      generalize togTo m sl x = tg at *
      clear hi hbx1 hbx2 hB1 hX1 h2
      go_wp2_with fail
      go_roundw
      case rel => exact ⟨x + 1, by omega, by go_num, by rw [Hnx.out]; rfl, hB2, hbx3⟩
      case measure => simp [intOf]; omega
    · have hxx : ¬ (x : Int) < letters m := by omega
      have hxd : decide (x < letters m) = false := decide_eq_false hlt
      obtain rfl : x = letters m := by omega
      go_wp2_with fail
      go_ret2
      exact ⟨rfl, hB1⟩
end Go.Proofs.YtphpablchlpagaaDoor
namespace Go.Proofs.YtphpablchlpagaaDoor
open Go.RowKit Go.Shelf
set_option maxRecDepth 100000 in
set_option maxHeartbeats 8000000 in
theorem eulerMeans_any (v u1 : Value) (m : List (List Int)) (sl : List Int) (w : World) (hT : Tab w) (h : Rows w v m) (hs : Ints w u1 sl) :
    Calls Tryd.prog 7 #[.agg #[v], u1] w fun e w' => e = .returned (.bool true) ∧ Below w.heap.size w w' := by
  obtain ⟨A, cap, rfl, hml, -⟩ := id h
  obtain ⟨As, caps, rfl, hls, -⟩ := id hs
  obtain ⟨k, hk⟩ : ∃ k, sl.length = k := ⟨_, rfl⟩
  rw [hk] at hs hls ⊢
  have Hk := hid hk
  clear hk
  have hX := bal (Below.refl _ w) (.cells #[.slice A m.length cap] 24)
  have hbx : (w.alloc (.cells #[.slice A m.length cap] 24)).cell? ⟨w.heap.size, 0, none⟩ = some (.slice A m.length cap) := by simp [go_sem]
  go_enter Tryd.func7, Tryd.ntmps7
  cases hv : validM m with
  | false =>
    go_wp2_with fail
    refine (rValid_bool _ m false _ (h.below hX) hv).mono ?_
    rintro e w1 ⟨rfl, h1⟩
    go_wp2_with fail
    refine (awake6_any _ (hT.on (btr hX h1))).mono ?_
    rintro e w2 ⟨rfl, h2⟩
    go_wp2_with fail
    go_ret
    exact ⟨rfl, btr (btr hX h1) h2⟩
  | true =>
    obtain ⟨p1, p2, p3, p4, -⟩ := valid_parts hv
    go_wp2_with fail
    refine (rValid_bool _ m true _ (h.below hX) hv).mono ?_
    rintro e w1 ⟨rfl, h1⟩
    have hbx1 := (h1.cell (p := ⟨w.heap.size, 0, none⟩) (World.block_lt_of_cell? _ _ hbx)).trans hbx
    have hB1 := btr hX h1
    clear hX hbx h1
    cases ha : isSetM m sl with
    | false =>
      go_wp2_with fail
      refine (rSet_bool _ _ m sl false _ (h.below hB1) (hs.below hB1) ha).mono ?_
      rintro e w2 ⟨rfl, h2⟩
      go_wp2_with fail
      refine (awake6_any _ (hT.on (btr hB1 h2))).mono ?_
      rintro e w3 ⟨rfl, h3⟩
      go_wp2_with fail
      go_ret
      exact ⟨rfl, btr (btr hB1 h2) h3⟩
    | true =>
      go_wp2_with fail
      refine (rSet_bool _ _ m sl true _ (h.below hB1) (hs.below hB1) ha).mono ?_
      rintro e w2 ⟨rfl, h2⟩
      have hbx2 := (h2.cell (p := ⟨w.heap.size, 0, none⟩) (World.block_lt_of_cell? _ _ hbx1)).trans hbx1
      have hB2 := btr hB1 h2
      clear hB1 hbx1 h2
      obtain ⟨eb, heb⟩ : ∃ b, eulB m = b := ⟨_, rfl⟩
      have Heb := hid heb
      have hall := tog_all hv
      rw [heb] at hall
      have Hall := hid hall
      clear heb hall
      go_wp2_with fail
      refine (Eulerian_ok _ m eb _ (h.below hB2) hv Heb.out).mono ?_
      rintro e w3 ⟨rfl, h3⟩
      have hbx3 := (h3.cell (p := ⟨w.heap.size, 0, none⟩) (World.block_lt_of_cell? _ _ hbx2)).trans hbx2
      have hB3 := btr hB2 h3
      clear hbx2 h3 hB2
      go_wp2_with fail
      go_loopw [7, 8] (fun av sv wr => ∃ (s : Nat) (b : Bool), s ≤ m.length ∧ sv = .int .i64 s ∧ av = .bool b ∧ Hid (b = true ↔ ∀ t : Nat, t < s → togTo m [(t : Int)] (letters m) = letters m) ∧ Below w.heap.size w wr ∧ wr.cell? ⟨w.heap.size, 0, none⟩ = some (.slice A m.length cap)) (fun _ sv _ => m.length - (intOf sv).toNat)
      case atStart => exact ⟨0, true, Nat.zero_le _, rfl, rfl, hid ⟨fun _ t ht => by omega, fun _ => rfl⟩, hB3, hbx3⟩
      case round =>
        clear hB3 hbx3
        obtain ⟨s, b, hsl, rfl, rfl, Hb, hB, hbx⟩ := hrel
        by_cases hlt : s < m.length
        · have hxx : (s : Int) < m.length := by omega
          have hxd : decide (s < m.length) = true := decide_eq_true hlt
          obtain ⟨wo, rfl⟩ : ∃ wo : World, wo = wr := ⟨_, rfl⟩
          have hX1 := bal (Below.refl _ wo) (.cells #[.int .i64 s] 3)
          have hbx2 := (hX1.cell (p := ⟨w.heap.size, 0, none⟩) (World.block_lt_of_cell? _ _ hbx)).trans hbx
          have hB1 := btr hB hX1
          have hi1 := Ints.one' wo (s : Int) 3 wo.heap.size rfl
          have HT := hid (together_any (.slice A m.length cap) (.slice (some ⟨wo.heap.size, 0, none⟩) 1 1) m [(s : Int)] (wo.alloc (.cells #[.int .i64 s] 3)) (hT.on hB1) (h.below hB1) hi1 hv (one_set hlt))
          obtain ⟨tg, htg⟩ : ∃ q, togTo m [(s : Int)] (letters m) = q := ⟨_, rfl⟩
          rw [htg] at HT
          have Htg := hid htg
          clear htg hi1 hX1
          go_wp2_with fail
          refine HT.out.mono ?_
          rintro e w4 ⟨rfl, h4⟩
          have hbx4 := (h4.cell (p := ⟨w.heap.size, 0, none⟩) (World.block_lt_of_cell? _ _ hbx2)).trans hbx2
          have hB4 := btr hB1 h4
          clear HT hbx hbx2 hB hB1 h4
          cases b with
          | false =>
            go_wp2_with fail
            go_roundw
            case rel => exact ⟨s + 1, false, by omega, by go_num, rfl, hid ⟨fun e => (by cases e), fun e => Hb.out.2 fun t ht => e t (by omega)⟩, hB4, hbx4⟩
            case measure => simp [intOf]; omega
          | true =>
            go_wp2_with fail
            refine (rLetters_any _ m _ (h.below hB4) hv).mono ?_
            rintro e w5 ⟨rfl, h5⟩
            have hbx5 := (h5.cell (p := ⟨w.heap.size, 0, none⟩) (World.block_lt_of_cell? _ _ hbx4)).trans hbx4
            have hB5 := btr hB4 h5
            clear hbx4 h5 hB4
            by_cases he : tg = letters m
            · have HQ := hid (show ∀ t : Nat, t < s + 1 → togTo m [(t : Int)] (letters m) = letters m from fun t ht => by
                by_cases e : t = s
                · subst e; rw [Htg.out]; exact he
                · exact Hb.out.1 (by first | trivial | rfl) t (by omega))
              subst he
              go_wp2_with fail
              go_roundw
              case rel => exact ⟨s + 1, true, by omega, by go_num, by simp, hid ⟨fun _ => HQ.out, fun _ => rfl⟩, hB5, hbx5⟩
              case measure => simp [intOf]; omega
            · have e1 : ¬ (tg : Int) = letters m := by omega
              have e2 : ((tg : Int) == letters m) = false := beq_eq_false_iff_ne.2 e1
              go_wp2_with fail
              go_roundw
              case rel => exact ⟨s + 1, false, by omega, by go_num, by simp [e2], hid ⟨fun e => (by cases e), fun e => absurd (by rw [← Htg.out]; exact e s (by omega)) he⟩, hB5, hbx5⟩
              case measure => simp [intOf]; omega
        · have hxx : ¬ (s : Int) < m.length := by omega
          have hxd : decide (s < m.length) = false := decide_eq_false hlt
          obtain rfl : s = m.length := by omega
          have hbe : b = eb := Bool.eq_iff_iff.2 (Hb.out.trans Hall.out.symm)
          subst hbe
          obtain ⟨wo, rfl⟩ : ∃ wo : World, wo = wr := ⟨_, rfl⟩
          have HT := hid (together_any (.slice A m.length cap) (.slice As k caps) m sl wo (hT.on hB) (h.below hB) (hs.below hB) hv ha)
          have hte := fun e => tog_eul hv ha (he := e)
          have htl := togTo_le m sl (letters m)
          obtain ⟨tg, htg⟩ : ∃ q, togTo m sl (letters m) = q := ⟨_, rfl⟩
          rw [htg] at HT htl
          rw [htg, Hk.out] at hte
          have Hte := hid hte
          clear htg hte
          go_wp2_with fail
          refine HT.out.mono ?_
          rintro e w4 ⟨rfl, h4⟩
          have hbx4 := (h4.cell (p := ⟨w.heap.size, 0, none⟩) (World.block_lt_of_cell? _ _ hbx)).trans hbx
          have hB4 := btr hB h4
          clear HT hbx hB h4
          cases b with
          | false =>
            go_wp2_with fail
            refine (awake6_any _ (hT.on hB4)).mono ?_
            rintro e w5 ⟨rfl, h5⟩
            go_wp2_with fail
            go_ret
            exact ⟨rfl, btr hB4 h5⟩
          | true =>
            go_wp2_with fail
            refine (rLetters_any _ m _ (h.below hB4) hv).mono ?_
            rintro e w5 ⟨rfl, h5⟩
            have hB5 := btr hB4 h5
            have hp : (letters m : Int) * k = tg := by rw [Hte.out Heb.out]; simp
            have hw : IntKind.i64.wrap ((letters m : Int) * k) = tg := by rw [hp]; exact IntWalk.i64_in _ (by omega)
            clear hp
            go_wp2_with fail
            refine (awake6_any _ (hT.on hB5)).mono ?_
            rintro e w6 ⟨rfl, h6⟩
            go_wp2_with fail
            go_ret
            exact ⟨rfl, btr hB5 h6⟩
end Go.Proofs.YtphpablchlpagaaDoor
namespace Go.Proofs.YtphpablchlpagaaDoor
def itE (E : Nat → Nat → Nat) (a x j : Nat) : Nat := runE E x (List.replicate j a)
/-- The letter a leads from q0 through all states and back. -/
structure CircE (n : Nat) (E : Nat → Nat → Nat) (a q0 : Nat) : Prop where
  lt : ∀ s x, s < n → E s x < n
  lt0 : q0 < n
  all : ∀ q, q < n → ∃ j, j < n ∧ itE E a q0 j = q
  back : ∀ q, q < n → itE E a q n = q
theorem itE_add (E : Nat → Nat → Nat) (a x i j : Nat) : itE E a (itE E a x i) j = itE E a x (i + j) := by
  unfold itE
  rw [← runE_append, List.replicate_append_replicate]
theorem runT_lt {n : Nat} {E : Nat → Nat → Nat} (h : ∀ s x, s < n → E s x < n) : ∀ (w : List Nat) (s : Nat), s < n → runE E s w < n
  | [], _, hs => hs
  | x :: w, s, hs => runT_lt h w _ (h s x hs)
theorem CircE.itn {n : Nat} {E : Nat → Nat → Nat} {a q0 : Nat} (h : CircE n E a q0) {x : Nat} (hx : x < n) (j : Nat) : itE E a x (n + j) = itE E a x j := by
  rw [← itE_add, h.back x hx]
def valE (E : Nat → Nat → Nat) (n : Nat) (f : Nat → Int) (w : List Nat) : Int := sumI (fun q => f (runE E q w)) n
theorem CircE.h1 {n : Nat} {E : Nat → Nat → Nat} {a q0 : Nat} (h : CircE n E a q0) (f : Nat → Int) (u w : List Nat) : valE E n f (u ++ (List.replicate n a ++ w)) = valE E n f (u ++ w) := by
  unfold valE
  refine sumI_congr fun q hq => ?_
  rw [runE_append, runE_append, runE_append]
  have := h.back (runE E q u) (runT_lt h.lt u q hq)
  unfold itE at this
  rw [this]
theorem CircE.one {n : Nat} {E : Nat → Nat → Nat} {a q0 : Nat} (h : CircE n E a q0) (m : List Nat) : ∃ k : Nat → Nat, ∀ (f : Nat → Int) (w : List Nat) (p : Nat), p < n →
    sumI (fun i => f (runE E p (List.replicate i a ++ (m ++ (List.replicate (n - i) a ++ w))))) n = sumI (fun i => f (runE E p (List.replicate (k i) a ++ w))) n := by
  have hn : 0 < n := by have := h.lt0; omega
  have hk : ∀ i, ∃ j, itE E a q0 j = runE E q0 (List.replicate i a ++ (m ++ List.replicate (n - i) a)) := fun i => by
    obtain ⟨j, -, hj⟩ := h.all _ (runT_lt h.lt (List.replicate i a ++ (m ++ List.replicate (n - i) a)) q0 h.lt0)
    exact ⟨j, hj⟩
  obtain ⟨k, hk⟩ := Classical.axiomOfChoice hk
  have hk2 : ∀ i, itE E a (runE E (itE E a q0 i) m) (n - i) = itE E a q0 (k i) := fun i => by
    rw [hk i, runE_append, runE_append]; rfl
  refine ⟨k, fun f w p hp => ?_⟩
  obtain ⟨j, hjn, rfl⟩ := h.all p hp
  have key : ∀ i, i < n → f (runE E (itE E a q0 j) (List.replicate i a ++ (m ++ (List.replicate (n - i) a ++ w)))) = f (runE E (itE E a q0 j) (List.replicate (k ((i + j) % n)) a ++ w)) := fun i hi => by
    have e1 : runE E (itE E a q0 j) (List.replicate i a ++ (m ++ (List.replicate (n - i) a ++ w))) = runE E (itE E a (runE E (itE E a q0 (j + i)) m) (n - i)) w := by
      rw [runE_append, runE_append, runE_append, ← itE_add]; rfl
    have e2 : runE E (itE E a q0 j) (List.replicate (k ((i + j) % n)) a ++ w) = runE E (itE E a (itE E a q0 (k ((i + j) % n))) j) w := by
      rw [runE_append, itE_add, Nat.add_comm (k ((i + j) % n)) j, ← itE_add]; rfl
    rw [e1, e2, ← hk2, itE_add]
    by_cases hij : i + j < n
    · rw [Nat.mod_eq_of_lt hij, show n - (i + j) + j = n - i by omega, Nat.add_comm j i]
    · have hmod : (i + j) % n = i + j - n := by
        rw [Nat.mod_eq_sub_mod (by omega), Nat.mod_eq_of_lt (by omega)]
      rw [hmod, show n - (i + j - n) + j = n + (n - i) by omega]
      have hi' : itE E a q0 (j + i) = itE E a q0 (i + j - n) := by
        rw [show j + i = n + (i + j - n) by omega, h.itn h.lt0]
      have hx : runE E (itE E a q0 (i + j - n)) m < n := runT_lt h.lt m _ (runT_lt h.lt _ _ h.lt0)
      rw [hi', h.itn hx]
  rw [sumI_congr key]
  rw [sumI_turn (fun i => f (runE E (itE E a q0 j) (List.replicate (k (i % n)) a ++ w))) (fun i => by rw [Nat.add_mod_right]) j]
  exact sumI_congr fun i hi => by rw [Nat.mod_eq_of_lt hi]
theorem CircE.h2 {n : Nat} {E : Nat → Nat → Nat} {a q0 : Nat} (h : CircE n E a q0) (f : Nat → Int) (m : List Nat) : ∃ k : Nat → Nat, ∀ u w, sumI (fun i => valE E n f (u ++ (List.replicate i a ++ (m ++ (List.replicate (n - i) a ++ w))))) n = sumI (fun i => valE E n f (u ++ (List.replicate (k i) a ++ w))) n := by
  obtain ⟨k, hk⟩ := h.one m
  refine ⟨k, fun u w => ?_⟩
  unfold valE
  conv => lhs; rw [sumI_swap]
  conv => rhs; rw [sumI_swap]
  refine sumI_congr fun q hq => ?_
  have := hk f w (runE E q u) (runT_lt h.lt u q hq)
  simp only [runE_append] at this ⊢
  exact this
theorem perm_sum {n : Nat} {π ρ : Nat → Nat} (g : Nat → Int) (h1 : ∀ q, q < n → π q < n) (h2 : ∀ q, q < n → ρ q < n) (h3 : ∀ q, q < n → ρ (π q) = q) (h4 : ∀ q, q < n → π (ρ q) = q) : sumI (fun q => g (π q)) n = sumI g n := by
  have e1 : sumI (fun q => g (π q)) n = sumI (fun q => sumI (fun t => if π q = t then g t else 0) n) n := sumI_congr fun q hq => by
    rw [sumI_one g (π q), if_pos (h1 q hq)]
  rw [e1, ← sumI_swap (fun t q => if π q = t then g t else 0)]
  refine sumI_congr fun t ht => ?_
  have e2 : sumI (fun q => if π q = t then g t else 0) n = sumI (fun q => if ρ t = q then g t else 0) n := sumI_congr fun q hq => by
    by_cases e : π q = t
    · rw [if_pos e, if_pos (by rw [← e, h3 q hq])]
    · rw [if_neg e, if_neg (fun e2 => e (by rw [← e2, h4 t ht]))]
  rw [e2, sumI_one (fun _ => g t) (ρ t), if_pos (h2 t ht)]
theorem CircE.first {n : Nat} {E : Nat → Nat → Nat} {a q0 : Nat} (h : CircE n E a q0) (f : Nat → Int) (w : List Nat) : ∀ j, valE E n f (List.replicate j a ++ w) = valE E n f w
  | 0 => rfl
  | j + 1 => by
    have hn : 0 < n := by have := h.lt0; omega
    rw [← CircE.first h f w j]
    unfold valE
    exact perm_sum (π := fun q => E q a) (ρ := fun q => itE E a q (n - 1)) (fun q => f (runE E q (List.replicate j a ++ w))) (fun q hq => h.lt q a hq) (fun q hq => runT_lt h.lt _ _ hq) (fun q hq => by
      show itE E a (itE E a q 1) (n - 1) = q
      rw [itE_add, show 1 + (n - 1) = n by omega, h.back q hq]) (fun q hq => by
      show itE E a (itE E a q (n - 1)) 1 = q
      rw [itE_add, show n - 1 + 1 = n by omega, h.back q hq])
theorem comb_sum {n : Nat} (π : Nat → Nat) : ∀ l : List (Int × (Nat → Int)), (∀ p ∈ l, sumI (fun q => p.2 (π q)) n = 0) → sumI (fun q => comb l (π q)) n = 0
  | [], _ => by
    have : sumI (fun q => comb [] (π q)) n = sumI (fun _ => 0) n := sumI_congr fun _ _ => rfl
    rw [this, sumI_const]; simp
  | (c, u) :: l, h => by
    have e : sumI (fun q => comb ((c, u) :: l) (π q)) n = sumI (fun q => c * u (π q) + comb l (π q)) n := sumI_congr fun _ _ => rfl
    rw [e, sumI_add, sumI_mul c (fun q => u (π q)), h (c, u) (by simp), comb_sum π l (fun p hp => h p (by simp [hp]))]
    simp
/-- DUBUC: where some word turns the weight, a word of at most n letters makes it larger. -/
theorem dubuc {n : Nat} {E : Nat → Nat → Nat} {a q0 : Nat} (h : CircE n E a q0) {f : Nat → Int} (hf : sumI f n = 0) (hex : ∃ w, valE E n f w ≠ 0) : ∃ w, w.length ≤ n ∧ 0 < valE E n f w := by
  have hn : 0 < n := by have := h.lt0; omega
  obtain ⟨t, ⟨w1, hw1, hw1v⟩, htmin⟩ := least_natR (P := fun t => ∃ w, cnt a w = t ∧ valE E n f w ≠ 0) (by
    obtain ⟨w, hw⟩ := hex
    exact ⟨_, w, rfl, hw⟩)
  have hlow : ∀ w, cnt a w < t → valE E n f w = 0 := fun w hw => Classical.byContradiction fun hc => htmin _ hw ⟨w, rfl, hc⟩
  obtain ⟨L, ⟨w, hwt, hwL, hwv⟩, hLmin⟩ := least_natR (P := fun L => ∃ w, cnt a w = t ∧ w.length = L ∧ valE E n f w ≠ 0) ⟨_, w1, hw1, rfl, hw1v⟩
  have hLn : L ≤ n := by
    have := indep_len (n := n) (L := (List.range L).map fun i => fun q => f (runE E q (w.drop (L - i)))) (fun i hi hsp => by
      have hiL : i < L := by simpa using hi
      have e1 : ((List.range L).map fun i => fun q => f (runE E q (w.drop (L - i)))).getD i (fun _ => 0) = fun q => f (runE E q (w.drop (L - i))) := by simp [List.getD_eq_getElem?_getD, hiL]
      rw [e1] at hsp
      obtain ⟨c, l, c1, c2, c3⟩ := hsp
      have hz : sumI (fun q => comb l (runE E q (w.take (L - i)))) n = 0 := comb_sum _ l (fun p hp => by
        have hp2 := c2 p hp
        rw [← List.map_take, List.take_range, List.mem_map] at hp2
        obtain ⟨j, hj, hpj⟩ := hp2
        have hj := List.mem_range.1 hj
        rw [← hpj]
        have e : sumI (fun q => f (runE E (runE E q (w.take (L - i))) (w.drop (L - j)))) n = valE E n f (w.take (L - i) ++ w.drop (L - j)) := by
          unfold valE; exact sumI_congr fun q _ => by rw [runE_append]
        show sumI (fun q => f (runE E (runE E q (w.take (L - i))) (w.drop (L - j)))) n = 0
        rw [e]
        have hcw : cnt a w = cnt a (w.take (L - i)) + cnt a (w.drop (L - i)) := by rw [← cnt_append, List.take_append_drop]
        have hcd : cnt a (w.drop (L - i)) = cnt a ((w.drop (L - i)).take (i - j)) + cnt a (w.drop (L - j)) := by
          have : w.drop (L - j) = (w.drop (L - i)).drop (i - j) := by rw [List.drop_drop]; congr 1; omega
          rw [this, ← cnt_append, List.take_append_drop]
        apply Classical.byContradiction
        intro hne
        by_cases hct : cnt a (w.take (L - i) ++ w.drop (L - j)) < t
        · exact hne (hlow _ hct)
        · rw [cnt_append] at hct
          refine hLmin (w.take (L - i) ++ w.drop (L - j)).length ?_ ⟨_, by rw [cnt_append]; omega, rfl, hne⟩
          rw [List.length_append, List.length_take, List.length_drop]; omega)
      have hc0 : c * valE E n f w = 0 := by
        rw [← hz]
        unfold valE
        rw [← sumI_mul]
        refine sumI_congr fun q hq => ?_
        rw [← c3 _ (runT_lt h.lt _ q hq)]
        show _ = c * f (runE E (runE E q (w.take (L - i))) (w.drop (L - i)))
        rw [← runE_append, List.take_append_drop]
      rcases Int.mul_eq_zero.1 hc0 with h1 | h1
      · exact c1 h1
      · exact hwv h1)
    simpa using this
  have ht0 : t ≠ 0 := fun e => by
    rw [e] at hwt
    have e2 : w = List.replicate w.length a := by
      rw [List.eq_replicate_iff]
      refine ⟨rfl, fun b hb => ?_⟩
      unfold cnt at hwt
      have := (List.filter_eq_nil_iff.1 (List.eq_nil_of_length_eq_zero hwt)) b hb
      simpa using this
    apply hwv
    rw [e2]
    have := h.first f [] w.length
    rw [List.append_nil] at this
    rw [this]
    exact hf
  obtain ⟨l, hl⟩ : ∃ l, t = l + 1 := ⟨t - 1, by omega⟩
  have hB : ∀ b ∈ w.filter (· != a), b ≠ a := fun b hb => by simpa using (List.mem_filter.1 hb).2
  have hzero := dubuc_sum (t := t) hn (h.h1 f) (h.h2 f) hlow l (w.filter (· != a)) (by rw [← hl, ← hwt]; rfl) hB [] [] (by
    show 0 + (l + 1) + 0 ≤ t
    omega)
  simp only [List.nil_append, List.append_nil] at hzero
  apply Classical.byContradiction
  intro hno
  have hle := sW_le n (w.filter (· != a)) (valE E n f) hB (fun v hv _ => Int.not_lt.1 fun hc => hno ⟨v, by omega, hc⟩)
  have hpad := h.first f w (n - L)
  have := hle.2 (List.replicate (n - L) a ++ w) (by rw [List.length_append, List.length_replicate]; omega) (by rw [List.filter_append]; simp) (by
    rw [hpad]
    have : ¬ 0 < valE E n f w := fun hc => hno ⟨w, by omega, hc⟩
    omega)
  have hz : sW a n (w.filter (· != a)) (valE E n f) = 0 := hzero
  omega
/-- The program's roads, with letters that are none as standing still. -/
def roadsT (m : List (List Int)) (s x : Nat) : Nat := if x < letters m then roadsE m s x else s
theorem roadsT_run (m : List (List Int)) : ∀ (w : List Nat) (s : Nat), runE (roadsT m) s w = runE (roadsE m) s (w.filter fun x => decide (x < letters m))
  | [], _ => rfl
  | x :: w, s => by
    show runE (roadsT m) (roadsT m s x) w = _
    rw [roadsT_run m w]
    unfold roadsT
    by_cases hx : x < letters m
    · rw [if_pos hx, List.filter_cons_of_pos (by simpa using hx)]; rfl
    · rw [if_neg hx, List.filter_cons_of_neg (by simpa using hx)]
theorem roadsT_it {m : List (List Int)} {x : Nat} (hx : x < letters m) : ∀ j, itE (roadsT m) x 0 j = itM m (x : Int) j
  | 0 => rfl
  | j + 1 => by
    rw [← itE_add, roadsT_it hx j]
    show roadsT m (itM m (x : Int) j) x = nx m (itM m (x : Int) j) x
    unfold roadsT
    rw [if_pos hx]; rfl
theorem seenM_bit (m : List (List Int)) (x : Int) (q : Nat) : ∀ i, (seenM m x i).testBit q = true → ∃ j, j < i ∧ itM m x j = q
  | 0, h => by simp [seenM] at h
  | i + 1, h => by
    have e : seenM m x (i + 1) = seenM m x i ||| 2 ^ itM m x i := rfl
    rw [e, Nat.testBit_or, Bool.or_eq_true] at h
    rcases h with h | h
    · obtain ⟨j, a, b⟩ := seenM_bit m x q i h
      exact ⟨j, by omega, b⟩
    · rw [Nat.testBit_two_pow] at h
      exact ⟨i, by omega, decide_eq_true_iff.1 h⟩
theorem circ_of {m : List (List Int)} (hv : validM m = true) {x : Nat} (hx : x < letters m) (hc : cycB m (x : Int) = true) : CircE m.length (roadsT m) x 0 := by
  have hpos := (valid_parts hv).1
  unfold cycB at hc
  rw [Bool.and_eq_true] at hc
  obtain ⟨c1, c2⟩ := hc
  have c1 : itM m (x : Int) m.length = 0 := by simpa using c1
  have c2 : seenM m (x : Int) m.length = 2 ^ m.length - 1 := by simpa using c2
  have hall : ∀ q, q < m.length → ∃ j, j < m.length ∧ itE (roadsT m) x 0 j = q := fun q hq => by
    obtain ⟨j, a, b⟩ := seenM_bit m (x : Int) q m.length (by rw [c2, testBit_below]; simpa using hq)
    exact ⟨j, a, by rw [roadsT_it hx, b]⟩
  refine ⟨fun s y hs => ?_, hpos, hall, fun q hq => ?_⟩
  · unfold roadsT
    by_cases hy : y < letters m
    · rw [if_pos hy]; exact roads_ok hv s y hs hy
    · rw [if_neg hy]; exact hs
  · obtain ⟨j, a, rfl⟩ := hall q hq
    rw [itE_add, Nat.add_comm, ← itE_add, roadsT_it hx, c1]
theorem dubuc_more {m : List (List Int)} (hv : validM m = true) {x : Nat} (hx : x < letters m) (hc : cycB m (x : Int) = true) (hall : allMerge m) {S : Nat} (hS : S < 2 ^ m.length) (h0 : 0 < szS S) (h1 : szS S < m.length) :
    ∃ w, WDm m w ∧ w.length ≤ m.length ∧ szS S < szS (preWord m S w) := by
  obtain ⟨p1, p2, -⟩ := valid_parts hv
  have hn : m.length ≤ 64 := by omega
  have C := circ_of hv hx hc
  have hsz := szS_sum hS hn
  have hval : ∀ w, valE (roadsT m) m.length (fun q => m.length * bitI S q + -(szS S : Int)) w = m.length * (szS (preWord m S ((w.filter fun x => decide (x < letters m)).map fun x : Nat => (x : Int))) : Int) - m.length * szS S := fun w => by
    have hw : Wd (letters m) (w.filter fun x => decide (x < letters m)) := fun y hy => by simpa using (List.mem_filter.1 hy).2
    rw [pre_sum hv hS hw]
    unfold valE
    rw [sumI_add (fun q => m.length * bitI S (runE (roadsT m) q w)) (fun _ => -(szS S : Int)), sumI_mul, sumI_const]
    have : sumI (fun q => bitI S (runE (roadsT m) q w)) m.length = sumI (fun q => bitI S (runE (roadsE m) q (w.filter fun x => decide (x < letters m)))) m.length := sumI_congr fun q _ => by rw [roadsT_run]
    rw [this, Int.mul_neg]; omega
  obtain ⟨w, hwl, hwp⟩ := dubuc C (f := fun q => m.length * bitI S q + -(szS S : Int)) (by
    rw [sumI_add (fun q => m.length * bitI S q) (fun _ => -(szS S : Int)), sumI_mul, sumI_const, ← hsz, Int.mul_neg]; omega) (by
    obtain ⟨t, ht, hr⟩ := reset_toU hv hall
    obtain ⟨w, w1, w2, w3⟩ := (WDm.of_all (resetW_ok hv hall).1).toNat
    -- a state of the set
    obtain ⟨q, hq, hqb⟩ : ∃ q, q < m.length ∧ S.testBit q = true := by
      apply Classical.byContradiction
      intro hno
      have : sumI (bitI S) m.length = sumI (fun _ => 0) m.length := sumI_congr fun q hq => by
        unfold bitI
        rw [if_neg fun hb => hno ⟨q, hq, hb⟩]
      rw [sumI_const] at this
      omega
    obtain ⟨i, hi, hti⟩ := C.all t ht
    obtain ⟨j, hj, hqj⟩ := C.all q hq
    have hto : itE (roadsT m) x t (m.length - i + j) = q := by
      rw [← hti, itE_add, show i + (m.length - i + j) = m.length + j by omega, C.itn C.lt0, hqj]
    refine ⟨w ++ List.replicate (m.length - i + j) x, ?_⟩
    have hrun : ∀ s, s < m.length → runE (roadsT m) s (w ++ List.replicate (m.length - i + j) x) = q := fun s hs => by
      rw [runE_append, roadsT_run m w]
      have ef : (w.filter fun x => decide (x < letters m)) = w := List.filter_eq_self.2 fun y hy => by simpa using w1 y hy
      rw [ef, roads_run, ← w3, hr s hs]
      exact hto
    have : valE (roadsT m) m.length (fun q => m.length * bitI S q + -(szS S : Int)) (w ++ List.replicate (m.length - i + j) x) = sumI (fun _ => m.length * 1 + -(szS S : Int)) m.length := by
      unfold valE
      refine sumI_congr fun s hs => ?_
      rw [hrun s hs]
      show m.length * (if S.testBit q = true then 1 else 0) + -(szS S : Int) = _
      rw [if_pos hqb]
    rw [this, sumI_const]
    intro hz
    rcases Int.mul_eq_zero.1 hz with h | h <;> omega)
  rw [hval] at hwp
  refine ⟨(w.filter fun x => decide (x < letters m)).map fun x : Nat => (x : Int), WDm.ofNat (fun y hy => by simpa using (List.mem_filter.1 hy).2), ?_, ?_⟩
  · rw [List.length_map]; exact Nat.le_trans (List.length_filter_le _ _) hwl
  · apply Classical.byContradiction
    intro hle
    have h5 : (szS (preWord m S ((w.filter fun x => decide (x < letters m)).map fun x : Nat => (x : Int))) : Int) ≤ szS S := by omega
    have h6 := Int.mul_le_mul_of_nonneg_left h5 (Int.natCast_nonneg m.length)
    omega
/-- Dubuc's bound. -/
theorem circ_word {m : List (List Int)} (hv : validM m = true) {x : Nat} (hx : x < letters m) (hc : cycB m (x : Int) = true) (hall : allMerge m) : ∃ w t, WDm m w ∧ w.length ≤ (m.length - 1) * (m.length - 1) ∧ t < m.length ∧ ∀ s, s < m.length → runM m s w = t := by
  obtain ⟨p1, p2, -⟩ := valid_parts hv
  by_cases e : m.length = 1
  · exact ⟨[], 0, fun x hx => by simp at hx, by simp, by omega, fun s hs => by show s = 0; omega⟩
  · obtain ⟨w, t, h1, h2, h3, h4⟩ := grow_reset hv hall (c := m.length) (fun S hS h0 h1 => dubuc_more hv hx hc hall hS h0 h1)
    refine ⟨w, t, h1, ?_, h3, h4⟩
    obtain ⟨d, hd⟩ : ∃ d, m.length = d + 2 := ⟨m.length - 2, by omega⟩
    rw [hd] at h2 ⊢
    have e1 : (d + 2 - 2) * (d + 2) = d * d + 2 * d := by
      rw [show d + 2 - 2 = d by omega]; grind
    have e2 : (d + 2 - 1) * (d + 2 - 1) = d * d + 2 * d + 1 := by
      rw [show d + 2 - 1 = d + 1 by omega]; grind
    omega
end Go.Proofs.YtphpablchlpagaaDoor
namespace Go.Proofs.YtphpablchlpagaaDoor
open Go.RowKit Go.Shelf
theorem isW_of {m : List (List Int)} {u : List Int} (h : WDm m u) (hl : u.length ≤ 40000) : isWordM m u = true := by
  unfold isWordM
  rw [h.all, Bool.and_true]
  exact decide_eq_true hl
theorem elems_oneU {m : List (List Int)} (hv : validM m = true) {u : List Int} (hu : isWordM m u = true) {t : Nat} (ht : ∀ s, s < m.length → runM m s u = t) : (elems (imgWord m (2 ^ m.length - 1) u)).length = 1 := by
  obtain ⟨p1, p2, -⟩ := valid_parts hv
  rw [← image_len (by omega)]
  have key : ∀ x, x ∈ elems (imgWord m (ofList (allM m.length)) u) ↔ x = t := fun x => by
    rw [← hasB_intsOf]
    show hasB (imageM m (allM m.length) u) x = true ↔ _
    rw [hasB_all hv hu]
    constructor
    · rintro ⟨s, hs, rfl⟩; exact ht s hs
    · rintro rfl; exact ⟨0, by omega, ht 0 (by omega)⟩
  have hn := elems_nodup (imgWord m (ofList (allM m.length)) u)
  have e : (imageM m (allM m.length) u).length = (elems (imgWord m (ofList (allM m.length)) u)).length := by unfold imageM intsOf; simp
  rw [e]
  generalize elems (imgWord m (ofList (allM m.length)) u) = L at *
  cases L with
  | nil => have := (key t).2 rfl; simp at this
  | cons a L =>
    cases L with
    | nil => rfl
    | cons b L =>
      have h1 := (key a).1 (by simp)
      have h2 := (key b).1 (by simp)
      rw [List.nodup_cons] at hn
      exact absurd (by rw [h1, h2]; simp : a ∈ b :: L) hn.1
theorem allMerge_ofU {m : List (List Int)} (hv : validM m = true) {u : List Int} (hu : isWordM m u = true) (h : (imageM m (allM m.length) u).length = 1) : allMerge m := by
  obtain ⟨x, hx⟩ := List.length_eq_one_iff.1 h
  obtain ⟨t, -, ht⟩ := image_one hv hu hx
  intro p q hpq hq
  exact ⟨u.length, u, isWordM_all hu, rfl, by rw [ht p (by omega), ht q hq]⟩
/-- The shortest reset word, if there is one. -/
def MinIs (m : List (List Int)) (c : Int) (l : List Int) : Prop := (allMerge m ∧ c = 0 ∧ isWordM m l = true ∧ (∃ t, t < m.length ∧ ∀ s, s < m.length → runM m s l = t) ∧ ∀ (u : List Int) (t : Nat), isWordM m u = true → (∀ s, s < m.length → runM m s u = t) → l.length ≤ u.length) ∨ (¬ allMerge m ∧ c = 4 ∧ l = [])
theorem Shortest_min (v : Value) (m : List (List Int)) (w : World) (hT : Tab w) (h : Rows w v m) (hv : validM m = true) (h12 : m.length ≤ 12) :
    ∃ c l, MinIs m c l ∧ Calls Tryd.prog 24 #[.agg #[v]] w fun e w' => ∃ A k, e = .returned (.tuple #[.slice A l.length k, .int .i64 c]) ∧ Ints w' (.slice A l.length k) l ∧ Below w.heap.size w w' := by
  obtain ⟨p1, p2, -⟩ := valid_parts hv
  obtain ⟨i0, hi0, -, -, hmin, hfirst⟩ := rank_spec hv
  by_cases h1 : szB (imgF m) i0 = 1
  · have hw := imgF_isWord hv h12 hi0
    have hs := szB_image hv h12 hi0 (imgF_word hv hi0).2
    have hall := allMerge_ofU hv hw (hs.trans h1)
    refine ⟨0, wordB (imgF m) i0, .inl ⟨hall, rfl, hw, ?_, fun u t hu ht => ?_⟩, Shortest_as v m i0 0 _ w hT h hv h12 hi0 hmin hfirst (hid (.inl ⟨h1, rfl, rfl⟩))⟩
    · obtain ⟨x, hx⟩ := List.length_eq_one_iff.1 (hs.trans h1)
      obtain ⟨t, -, ht⟩ := image_one hv hw hx
      refine ⟨t, ?_, ht⟩
      rw [← ht 0 p1]
      exact runM_lt hv _ 0 p1 (isWordM_all hw)
    · obtain ⟨k1, k2⟩ := least_ok hv h12 hi0 hmin hfirst (isWordM_all hu)
      rw [image_len (by omega), elems_oneU hv hu ht] at k2
      omega
  · refine ⟨4, [], .inr ⟨fun hall => ?_, rfl, rfl⟩, Shortest_as v m i0 4 _ w hT h hv h12 hi0 hmin hfirst (hid (.inr ⟨h1, rfl, rfl⟩))⟩
    obtain ⟨r1, r2, -⟩ := resetW_ok hv hall
    obtain ⟨k1, -⟩ := least_ok hv h12 hi0 hmin hfirst r1
    rw [image_len (by omega), r2] at k1
    have := szB_pos hv h12 hi0
    omega
theorem circB_iff {m : List (List Int)} : circB m = true ↔ ∃ y : Nat, y < letters m ∧ cycB m (y : Int) = true := by
  unfold circB
  rw [List.any_eq_true]
  constructor
  · rintro ⟨y, h1, h2⟩; exact ⟨y, List.mem_range.1 h1, h2⟩
  · rintro ⟨y, h1, h2⟩; exact ⟨y, List.mem_range.2 h1, h2⟩
theorem eul_short {m : List (List Int)} (hv : validM m = true) (hall : allMerge m) (he : eulB m = true) {L : Nat} (hmin : ∀ (u : List Int) (t : Nat), isWordM m u = true → (∀ s, s < m.length → runM m s u = t) → L ≤ u.length) : (L : Int) ≤ (m.length : Int) * m.length - 3 * m.length + 3 := by
  obtain ⟨p1, p2, -⟩ := valid_parts hv
  have hsq : m.length * m.length ≤ 60 * 60 := Nat.mul_le_mul p2 p2
  obtain ⟨w, t, h1, h2, h3, h4⟩ := eul_word hv ((eulB_eulM hv).1 he) hall
  have := hmin w t (isW_of h1 (by omega)) h4
  have e : (m.length : Int) * m.length = ((m.length * m.length : Nat) : Int) := by push_cast; rfl
  omega
theorem circ_short {m : List (List Int)} (hv : validM m = true) (hall : allMerge m) (hc : circB m = true) {L : Nat} (hmin : ∀ (u : List Int) (t : Nat), isWordM m u = true → (∀ s, s < m.length → runM m s u = t) → L ≤ u.length) : (L : Int) ≤ ((m.length : Int) - 1) * (m.length - 1) := by
  obtain ⟨p1, p2, -⟩ := valid_parts hv
  obtain ⟨y, hy, hcy⟩ := circB_iff.1 hc
  obtain ⟨w, t, h1, h2, h3, h4⟩ := circ_word hv hy hcy hall
  have hsq : (m.length - 1) * (m.length - 1) ≤ 60 * 60 := Nat.mul_le_mul (by omega) (by omega)
  have := hmin w t (isW_of h1 (by omega)) h4
  have e : ((m.length : Int) - 1) * (m.length - 1) = (((m.length - 1) * (m.length - 1) : Nat) : Int) := by
    rw [Int.natCast_mul, Int.natCast_sub p1]; rfl
  omega
theorem any_short {m : List (List Int)} (hv : validM m = true) (hall : allMerge m) {L : Nat} (hmin : ∀ (u : List Int) (t : Nat), isWordM m u = true → (∀ s, s < m.length → runM m s u = t) → L ≤ u.length) : L ≤ (m.length * m.length * m.length - m.length) / 6 := by
  obtain ⟨t, ht, hr⟩ := reset_toU hv hall
  have := hmin _ t (resetW_word hv hall) hr
  have := (resetW_ok hv hall).2.2
  omega
theorem bnd_short {m : List (List Int)} (hv : validM m = true) (hall : allMerge m) {L : Nat} (hmin : ∀ (u : List Int) (t : Nat), isWordM m u = true → (∀ s, s < m.length → runM m s u = t) → L ≤ u.length) : (L : Int) ≤ bndM m := by
  unfold bndM
  by_cases he : eulB m = true
  · rw [if_pos he]; exact eul_short hv hall he hmin
  · rw [if_neg he]
    by_cases hc : circB m = true
    · rw [if_pos hc]; exact circ_short hv hall hc hmin
    · rw [if_neg hc]
      exact Int.ofNat_le.2 (any_short hv hall hmin)
theorem bnd_most {m : List (List Int)} (h1 : 1 < m.length) : bndM m ≤ (((m.length * m.length * m.length - m.length) / 6 : Nat) : Int) := by
  unfold bndM
  obtain ⟨d, hd⟩ : ∃ d, m.length = d + 2 := ⟨m.length - 2, by omega⟩
  rw [hd]
  have e3 : (d + 2) * (d + 2) * (d + 2) = d * d * d + 6 * (d * d) + 12 * d + 8 := by grind
  have e2 : ((d + 2 : Nat) : Int) * ((d + 2 : Nat) : Int) = ((d * d : Nat) : Int) + 4 * d + 4 := by push_cast; grind
  have e1 : (((d + 2 : Nat) : Int) - 1) * (((d + 2 : Nat) : Int) - 1) = ((d * d : Nat) : Int) + 2 * d + 1 := by push_cast; grind
  have e0 : d ≤ d * d * d := by
    rcases Nat.eq_zero_or_pos d with e | e
    · subst e; simp
    · have : 1 * d ≤ d * d * d := Nat.mul_le_mul_right d (Nat.mul_pos e e)
      omega
  rw [e3, e2, e1]
  generalize d * d * d = c at *
  generalize d * d = q at *
  by_cases he : eulB m = true
  · rw [if_pos he]; omega
  · rw [if_neg he]
    by_cases hc : circB m = true
    · rw [if_pos hc]; omega
    · rw [if_neg hc]; exact Int.le_refl _
set_option maxRecDepth 100000 in
set_option maxHeartbeats 2000000 in
theorem bounds_form (v : Value) (m : List (List Int)) (w : World) (hT : Tab w) (h : Rows w v m) (hv : validM m = false) :
    Calls Tryd.prog 6 #[.agg #[v]] w fun e w' => e = .returned (.bool true) ∧ Below w.heap.size w w' := by
  obtain ⟨A, cap, rfl, hml, -⟩ := id h
  have hX := bal (Below.refl _ w) (.cells #[.slice A m.length cap] 24)
  have hbx := (Boxed.new w 24 (.slice A m.length cap)).cell
  go_enter Tryd.func6, Tryd.ntmps6
  go_wp2_with fail
  have hr := h.below hX
  have hTX := hT.on hX
  generalize w.alloc (.cells #[.slice A m.length cap] 24) = X at *
  refine (rValid_bool _ m false _ hr hv).mono ?_
  rintro e w1 ⟨rfl, h1⟩
  go_wp2_with fail
  refine (awake6_any w1 (hTX.on h1)).mono ?_
  rintro e w4 ⟨rfl, h4⟩
  go_wp2_with fail
  go_ret
  exact ⟨rfl, btr hX (btr h1 h4)⟩
set_option maxRecDepth 100000 in
set_option maxHeartbeats 4000000 in
theorem bounds_none (v : Value) (m : List (List Int)) (w : World) (hT : Tab w) (h : Rows w v m) (hv : validM m = true) (hno : ¬ allMerge m) :
    Calls Tryd.prog 6 #[.agg #[v]] w fun e w' => e = .returned (.bool true) ∧ Below w.heap.size w w' := by
  obtain ⟨A, cap, rfl, hml, -⟩ := id h
  have hX := bal (Below.refl _ w) (.cells #[.slice A m.length cap] 24)
  have hbx := (Boxed.new w 24 (.slice A m.length cap)).cell
  have Hno := hid hno
  clear hno
  go_enter Tryd.func6, Tryd.ntmps6
  go_wp2_with fail
  have hr := h.below hX
  have hTX := hT.on hX
  generalize w.alloc (.cells #[.slice A m.length cap] 24) = X at *
  refine (rValid_bool _ m true _ hr hv).mono ?_
  rintro e w1 ⟨rfl, h1⟩
  have c1 := (h1.cell (p := ⟨w.heap.size, 0, none⟩) (World.block_lt_of_cell? _ _ hbx)).trans hbx
  go_wp2_with fail
  refine (Bound_none _ m _ (hr.below h1) hv Hno.out).mono ?_
  rintro e w2 ⟨rfl, h2⟩
  have B2 := btr h1 h2
  have c2 := (h2.cell (p := ⟨w.heap.size, 0, none⟩) (World.block_lt_of_cell? _ _ c1)).trans c1
  clear c1 hbx
  go_wp2_with fail
  refine (Reset_none _ m _ (hr.below B2) hv Hno.out).mono ?_
  rintro e w3 ⟨rfl, h3⟩
  have B3 := btr B2 h3
  have c3 := (h3.cell (p := ⟨w.heap.size, 0, none⟩) (World.block_lt_of_cell? _ _ c2)).trans c2
  clear c2
  by_cases h12 : m.length ≤ 12
  · have d1 : decide ((12 : Int) < m.length) = false := by simp; omega
    have d2 : ¬ (12 : Int) < m.length := by omega
    obtain ⟨c, l, hm, hS⟩ := Shortest_min _ m w3 (hTX.on B3) (hr.below B3) hv h12
    obtain ⟨rfl, rfl⟩ : c = 4 ∧ l = [] := by
      rcases hm with ⟨ha, -⟩ | ⟨-, a, b⟩
      · exact absurd ha Hno.out
      · exact ⟨a, b⟩
    clear hm
    have HS := hid hS
    clear hS
    go_wp2_with fail
    refine HS.out.mono ?_
    rintro e w4 ⟨A4, k4, rfl, -, h4⟩
    have B4 := btr B3 h4
    go_wp2_with fail
    refine (awake6_any w4 (hTX.on B4)).mono ?_
    rintro e w5 ⟨rfl, h5⟩
    go_wp2_with fail
    go_ret
    exact ⟨rfl, btr hX (btr B4 h5)⟩
  · have d1 : decide ((12 : Int) < m.length) = true := by simp; omega
    have d2 : (12 : Int) < m.length := by omega
    go_wp2_with fail
    refine (awake6_any w3 (hTX.on B3)).mono ?_
    rintro e w5 ⟨rfl, h5⟩
    go_wp2_with fail
    go_ret
    exact ⟨rfl, btr hX (btr B3 h5)⟩
set_option maxRecDepth 100000 in
set_option maxHeartbeats 8000000 in
theorem bounds_ok (v : Value) (m : List (List Int)) (w : World) (hT : Tab w) (h : Rows w v m) (hv : validM m = true) (hall : allMerge m) :
    Calls Tryd.prog 6 #[.agg #[v]] w fun e w' => e = .returned (.bool true) ∧ Below w.heap.size w w' := by
  obtain ⟨p1, p2, -⟩ := valid_parts hv
  obtain ⟨A, cap, rfl, hml, -⟩ := id h
  have hX := bal (Below.refl _ w) (.cells #[.slice A m.length cap] 24)
  have hbx := (Boxed.new w 24 (.slice A m.length cap)).cell
  have Hall := hid hall
  have hlen := (resetW_ok hv hall).2.2
  have hbs := fun L hm => bnd_short hv hall (L := L) hm
  have hbm := fun h => bnd_most (m := m) h
  obtain ⟨W, hW⟩ : ∃ W, resetW m = W := ⟨_, rfl⟩
  rw [hW] at hlen
  have HW := hid hW
  obtain ⟨K, hK⟩ : ∃ K, (m.length * m.length * m.length - m.length) / 6 = K := ⟨_, rfl⟩
  rw [hK] at hlen hbm
  have HK := hid hK
  obtain ⟨b, hb⟩ : ∃ b, bndM m = b := ⟨_, rfl⟩
  rw [hb] at hbs hbm
  have Hb := hid hb
  have Hbs := hid hbs
  have Hbm := hid hbm
  have hle : (W.length : Int) ≤ K := by omega
  have hmost := fun w => rMost_any m.length w p2
  rw [hK] at hmost
  have Hm := hid hmost
  clear hall hW hK hb hbs hbm hmost hlen
  go_enter Tryd.func6, Tryd.ntmps6
  go_wp2_with fail
  have hr := h.below hX
  have hTX := hT.on hX
  generalize w.alloc (.cells #[.slice A m.length cap] 24) = X at *
  refine (rValid_bool _ m true _ hr hv).mono ?_
  rintro e w1 ⟨rfl, h1⟩
  have c1 := (h1.cell (p := ⟨w.heap.size, 0, none⟩) (World.block_lt_of_cell? _ _ hbx)).trans hbx
  go_wp2_with fail
  refine (Bound_ok _ m _ (hr.below h1) hv Hall.out).mono ?_
  rintro e w2 ⟨rfl, h2⟩
  rw [Hb.out]
  have B2 := btr h1 h2
  have c2 := (h2.cell (p := ⟨w.heap.size, 0, none⟩) (World.block_lt_of_cell? _ _ c1)).trans c1
  clear c1 hbx
  go_wp2_with fail
  refine (Reset_ok _ m _ (hTX.on B2) (hr.below B2) hv Hall.out).mono ?_
  rintro e w3 ⟨r, rfl, ho, h3⟩
  rw [HW.out] at ho
  obtain ⟨rA, rc, rfl⟩ := ownsRow_slice ho
  have B3 := btr B2 h3
  have c3 := (h3.cell (p := ⟨w.heap.size, 0, none⟩) (World.block_lt_of_cell? _ _ c2)).trans c2
  clear c2 ho
  have f1 : decide ((K : Int) < W.length) = false := by simp; omega
  have f2 : decide (K < W.length) = false := by simp; omega
  have f3 : ¬ (K : Int) < W.length := by omega
  have f4 : ¬ K < W.length := by omega
  by_cases h12 : m.length ≤ 12
  · have d1 : decide ((12 : Int) < m.length) = false := by simp; omega
    have d2 : ¬ (12 : Int) < m.length := by omega
    obtain ⟨c, l, hm, hS⟩ := Shortest_min _ m w3 (hTX.on B3) (hr.below B3) hv h12
    obtain ⟨rfl, hl⟩ : c = 0 ∧ (l.length : Int) ≤ b := by
      rcases hm with ⟨-, a, -, -, hk⟩ | ⟨hn, -⟩
      · exact ⟨a, Hbs.out _ hk⟩
      · exact absurd Hall.out hn
    clear hm
    have HS := hid hS
    clear hS
    have g1 : decide ((l.length : Int) ≤ b) = true := decide_eq_true hl
    by_cases hn1 : 1 < m.length
    · have hbk := Hbm.out hn1
      have n1 : (1 : Int) < m.length := by omega
      have n2 : decide ((1 : Int) < m.length) = true := decide_eq_true n1
      have n3 : decide (1 < m.length) = true := decide_eq_true hn1
      have b1 : ¬ (K : Int) < b := by omega
      have b2 : decide ((K : Int) < b) = false := decide_eq_false b1
      go_wp2_with fail
      refine (Hm.out _).mono ?_
      rintro e w3' ⟨rfl, rfl⟩
      go_wp2_with fail
      refine (Hm.out _).mono ?_
      rintro e w3' ⟨rfl, rfl⟩
      go_wp2_with fail
      refine HS.out.mono ?_
      rintro e w4 ⟨A4, k4, rfl, -, h4⟩
      have B4 := btr B3 h4
      go_wp2_with fail
      refine (awake6_any w4 (hTX.on B4)).mono ?_
      rintro e w5 ⟨rfl, h5⟩
      go_wp2_with fail
      go_ret
      exact ⟨rfl, btr hX (btr B4 h5)⟩
    · have n1 : ¬ (1 : Int) < m.length := by omega
      have n2 : decide ((1 : Int) < m.length) = false := decide_eq_false n1
      have n3 : decide (1 < m.length) = false := decide_eq_false hn1
      go_wp2_with fail
      refine (Hm.out _).mono ?_
      rintro e w3' ⟨rfl, rfl⟩
      go_wp2_with fail
      refine HS.out.mono ?_
      rintro e w4 ⟨A4, k4, rfl, -, h4⟩
      have B4 := btr B3 h4
      go_wp2_with fail
      refine (awake6_any w4 (hTX.on B4)).mono ?_
      rintro e w5 ⟨rfl, h5⟩
      go_wp2_with fail
      go_ret
      exact ⟨rfl, btr hX (btr B4 h5)⟩
  · have d1 : decide ((12 : Int) < m.length) = true := by simp; omega
    have d2 : (12 : Int) < m.length := by omega
    have hn1 : 1 < m.length := by omega
    have hbk := Hbm.out hn1
    have n1 : (1 : Int) < m.length := by omega
    have n2 : decide ((1 : Int) < m.length) = true := decide_eq_true n1
    have n3 : decide (1 < m.length) = true := decide_eq_true hn1
    have b1 : ¬ (K : Int) < b := by omega
    have b2 : decide ((K : Int) < b) = false := decide_eq_false b1
    go_wp2_with fail
    refine (Hm.out _).mono ?_
    rintro e w3' ⟨rfl, rfl⟩
    go_wp2_with fail
    refine (Hm.out _).mono ?_
    rintro e w3' ⟨rfl, rfl⟩
    go_wp2_with fail
    refine (awake6_any w3 (hTX.on B3)).mono ?_
    rintro e w5 ⟨rfl, h5⟩
    go_wp2_with fail
    go_ret
    exact ⟨rfl, btr hX (btr B3 h5)⟩
theorem eulerBounds_any (v : Value) (m : List (List Int)) (w : World) (hT : Tab w) (h : Rows w v m) :
    Calls Tryd.prog 6 #[.agg #[v]] w fun e w' => e = .returned (.bool true) ∧ Below w.heap.size w w' := by
  cases hv : validM m with
  | false => exact bounds_form v m w hT h hv
  | true =>
    by_cases ha : allMerge m
    · exact bounds_ok v m w hT h hv ha
    · exact bounds_none v m w hT h hv ha
end Go.Proofs.YtphpablchlpagaaDoor
namespace Go.Proofs.YtphpablchlpagaaDoor
open Go.RowKit Go.Shelf
theorem own_ints {W : World} {B n : Nat} {v : Value} {l : List Int} (h : W.ownsRow B 3 1 v n (l.map fun x => .int .i64 x)) (hl : l.length = n) (hn : n ≤ big) : Ints W v l := by
  subst hl
  exact Ints.of_own h hn
/-- How often the rows of the first states lead to t. -/
def rowT (m : List (List Int)) (t : Int) : Nat → Nat
  | 0 => 0
  | k + 1 => rowT m t k + timesL (m.getD k []) t
theorem timesL_app (l k : List Int) (n : Int) : timesL (l ++ k) n = timesL l n + timesL k n := by
  unfold timesL; rw [List.filter_append, List.length_append]
theorem rowT_take (m : List (List Int)) (t : Int) : ∀ k, k ≤ m.length → rowT m t k = timesL (m.take k).flatten t
  | 0, _ => rfl
  | k + 1, h => by
    show rowT m t k + _ = _
    rw [rowT_take m t k (by omega), List.take_succ_eq_append_getElem (by omega), List.flatten_append, timesL_app]
    simp [List.getD_eq_getElem?_getD, show k < m.length by omega]
theorem rowT_end (m : List (List Int)) (t : Int) : rowT m t m.length = timesL m.flatten t := by rw [rowT_take m t _ (Nat.le_refl _), List.take_length]
theorem rowT_le {m : List (List Int)} (hv : validM m = true) (t : Int) : ∀ k, k ≤ m.length → rowT m t k ≤ 6 * k
  | 0, _ => Nat.zero_le _
  | k + 1, h => by
    obtain ⟨p1, p2, p3, p4, p5⟩ := valid_parts hv
    show rowT m t k + _ ≤ _
    have h1 := rowT_le hv t k (by omega)
    have h2 := timesL_le (m.getD k []) t
    have h3 := (p5 k (by omega)).1
    omega
set_option maxRecDepth 100000 in
set_option maxHeartbeats 4000000 in
theorem rEulerian_any (v : Value) (m : List (List Int)) (w : World) (h : Rows w v m) (hv : validM m = true) :
    Calls Tryd.prog 14 #[.agg #[v]] w fun e w' => e = .returned (.bool (eulB m)) ∧ Below w.heap.size w w' := by
  obtain ⟨p1, p2, p3, p4, p5⟩ := valid_parts hv
  obtain ⟨A, cap, rfl, hml, -⟩ := id h
  have hX := bal (Below.refl _ w) (.cells #[.slice A m.length cap] 24)
  have hbx : (w.alloc (.cells #[.slice A m.length cap] 24)).cell? ⟨w.heap.size, 0, none⟩ = some (.slice A m.length cap) := by simp [go_sem]
  go_enter Tryd.func14, Tryd.ntmps14
  go_wp2_with fail
  go_loopw [3] (fun tv wr => ∃ t : Nat, t ≤ m.length ∧ tv = .int .i64 t ∧ Hid (∀ s, s < t → timesL m.flatten (s : Int) = letters m) ∧ Below w.heap.size w wr ∧ wr.cell? ⟨w.heap.size, 0, none⟩ = some (.slice A m.length cap)) (fun tv _ => m.length - (intOf tv).toNat)
  case atStart => exact ⟨0, Nat.zero_le _, rfl, hid (fun s hs => absurd hs (Nat.not_lt_zero _)), hX, hbx⟩
  case round =>
    clear hX hbx
    obtain ⟨t, ht, rfl, hpre, hB, hbx⟩ := hrel
    obtain ⟨wo, rfl⟩ : ∃ wo : World, wo = wr := ⟨_, rfl⟩
    by_cases hlt : t < m.length
    · have htm : (t : Int) < m.length := by omega
      go_wp2_with fail
      go_loopw [4, 5] (fun nv sv wr => ∃ k : Nat, k ≤ m.length ∧ sv = .int .i64 k ∧ nv = .int .i64 (rowT m t k) ∧ Below wo.heap.size wo wr) (fun _ sv _ => m.length - (intOf sv).toNat)
      case atStart => exact ⟨0, Nat.zero_le _, rfl, rfl, Below.refl _ _⟩
      case round =>
        obtain ⟨k, hk, rfl, rfl, hB2⟩ := hrel
        have hbx2 := (hB2.cell (p := ⟨w.heap.size, 0, none⟩) (World.block_lt_of_cell? _ _ hbx)).trans hbx
        have hrr := h.below (btr hB hB2)
        by_cases hlk : k < m.length
        · have hkm : (k : Int) < m.length := by omega
          obtain ⟨b, off, A', c', hA, hcell, hrow⟩ := getR_of hrr hlk
          subst hA
          have hr6 := (p5 k hlk).1
          have hc := rowT_le hv t k hk
          have hc2 := timesL_le (m.getD k []) t
          have hs : rowT m t (k + 1) = rowT m t k + timesL (m.getD k []) t := rfl
          have HT := hid (fun x hx => rTimes_as (.slice A' (m.getD k []).length c') (m.getD k []) (t : Int) x wr hrow (by omega) hx)
          obtain ⟨a, ha⟩ : ∃ a, rowT m t k = a := ⟨_, rfl⟩
          obtain ⟨x, hx⟩ : ∃ x, timesL (m.getD k []) t = x := ⟨_, rfl⟩
          rw [ha] at hc hs ⊢
          rw [hx] at hc2 hs
          have HT := hid (HT.out x (hid hx))
          have Hs := hid hs
          clear hs ha hx
          rw [hr6] at hc2
          generalize (m.getD k []).length = rl at *
          clear hr6 hrow
          go_wp2_with (go_at_call 37; refine HT.out.mono ?_; rintro e w2 ⟨rfl, h2⟩)
          go_roundw
          case rel => exact ⟨k + 1, by omega, by go_num, by rw [Hs.out]; go_num, btr hB2 h2⟩
          case measure => simp [intOf]; omega
        · obtain rfl : k = m.length := by omega
          have hc := rowT_le hv t m.length hk
          have hend := rowT_end m t
          obtain ⟨wz, rfl⟩ : ∃ wz : World, wz = wr := ⟨_, rfl⟩
          obtain ⟨a, ha⟩ : ∃ a, rowT m t m.length = a := ⟨_, rfl⟩
          rw [ha] at hc hend ⊢
          have Hend := hid hend
          clear hend ha
          by_cases hal : a = letters m
          · subst hal
            go_wp2_with fail
            refine (rLetters_any _ m _ hrr hv).mono ?_
            rintro e w3 ⟨rfl, h3⟩
            go_wp2_with fail
            go_roundw
            case rel => exact ⟨t + 1, by omega, by go_num, hid (fun s hs => by
              by_cases e : s = t
              · subst e; exact Hend.out.symm
              · exact hpre.out s (by omega)), btr hB (btr hB2 h3), (h3.cell (p := ⟨w.heap.size, 0, none⟩) (World.block_lt_of_cell? _ _ hbx2)).trans hbx2⟩
            case measure => simp [intOf]; omega
          · have a1 : ¬ (a : Int) = letters m := by omega
            have a2 : ((a : Int) == (letters m : Int)) = false := beq_eq_false_iff_ne.2 a1
            have hf := eulB_false hlt (by rw [← Hend.out]; exact hal)
            go_wp2_with fail
            refine (rLetters_any _ m _ hrr hv).mono ?_
            rintro e w3 ⟨rfl, h3⟩
            go_wp2_with fail
            go_ret
            exact ⟨ret_bool hf.symm, btr hB (btr hB2 h3)⟩
    · obtain rfl : t = m.length := by omega
      have htm : ¬ (m.length : Int) < m.length := by omega
      have hf := eulB_true hpre.out
      go_wp2_with fail
      go_ret
      exact ⟨by first | exact ret_bool hf.symm | rfl, hB⟩
/-- The way of a letter from state 0. -/
def wayL (m : List (List Int)) (x : Int) (j : Nat) : List Int := (List.range j).map fun i => ((itM m x i : Nat) : Int)
theorem wayL_has {m : List (List Int)} {x : Int} {j n : Nat} : hasB (wayL m x j) (n : Int) = true ↔ ∃ i, i < j ∧ itM m x i = n := by
  unfold hasB wayL
  rw [List.any_eq_true]
  constructor
  · rintro ⟨y, hy, e⟩
    obtain ⟨i, hi, rfl⟩ := List.mem_map.1 hy
    exact ⟨i, List.mem_range.1 hi, by have := beq_iff_eq.1 e; omega⟩
  · rintro ⟨i, hi, rfl⟩
    exact ⟨_, List.mem_map.2 ⟨i, List.mem_range.2 hi, rfl⟩, by simp⟩
/-- No state twice. -/
def DistI (m : List (List Int)) (x : Int) (j : Nat) : Prop := ∀ a b, a < b → b < j → itM m x a ≠ itM m x b
theorem DistI.succ {m : List (List Int)} {x : Int} {j : Nat} (h : DistI m x j) (hn : hasB (wayL m x j) ((itM m x j : Nat) : Int) = false) : DistI m x (j + 1) := fun a b hab hb e => by
  by_cases hbj : b = j
  · subst hbj
    have : hasB (wayL m x b) ((itM m x b : Nat) : Int) = true := wayL_has.2 ⟨a, hab, e⟩
    rw [hn] at this; cases this
  · exact h a b hab (by omega) e
theorem DistI.nodup {m : List (List Int)} {x : Int} {j : Nat} (h : DistI m x j) : ((List.range j).map (itM m x)).Nodup := by
  rw [List.nodup_iff_pairwise_ne, List.pairwise_map]
  refine List.Pairwise.imp_of_mem (R := fun a b => a < b) (fun {a b} ha hb hab => h a b hab (List.mem_range.1 hb)) List.pairwise_lt_range
theorem DistI.le {m : List (List Int)} (hv : validM m = true) {x j : Nat} (hx : x < letters m) (h : DistI m (x : Int) j) : j ≤ m.length := by
  have := nodup_lenR (k := List.range m.length) h.nodup (fun y hy => by
    obtain ⟨i, -, rfl⟩ := List.mem_map.1 hy
    exact List.mem_range.2 (itM_lt hv hx i))
  simpa using this
theorem seenM_has (m : List (List Int)) (x : Int) {i : Nat} : ∀ j, i < j → (seenM m x j).testBit (itM m x i) = true
  | j + 1, h => by
    show (seenM m x j ||| 2 ^ itM m x j).testBit (itM m x i) = true
    rw [Nat.testBit_or, Bool.or_eq_true]
    by_cases e : i = j
    · subst e; right; rw [Nat.testBit_two_pow]; simp
    · exact .inl (seenM_has m x j (by omega))
theorem seenM_only (m : List (List Int)) (x : Int) (q : Nat) : ∀ i, (seenM m x i).testBit q = true → ∃ j, j < i ∧ itM m x j = q
  | 0, h => by simp [seenM] at h
  | i + 1, h => by
    have e : seenM m x (i + 1) = seenM m x i ||| 2 ^ itM m x i := rfl
    rw [e, Nat.testBit_or, Bool.or_eq_true] at h
    rcases h with h | h
    · obtain ⟨j, a, b⟩ := seenM_only m x q i h
      exact ⟨j, by omega, b⟩
    · rw [Nat.testBit_two_pow] at h
      exact ⟨i, by omega, decide_eq_true_iff.1 h⟩
/-- Where the way comes back is after all states exactly if the letter is a circle. -/
theorem circ_stop {m : List (List Int)} (hv : validM m = true) {x j : Nat} (hx : x < letters m) (hd : DistI m (x : Int) j) (hs : hasB (wayL m (x : Int) j) ((itM m (x : Int) j : Nat) : Int) = true) :
    cycB m (x : Int) = ((itM m (x : Int) j == 0) && (j == m.length)) := by
  have hn : m.length ≤ 64 := by have := (valid_parts hv).2.1; omega
  rw [Bool.eq_iff_iff, Bool.and_eq_true]
  unfold cycB
  rw [Bool.and_eq_true]
  simp only [beq_iff_eq]
  constructor
  · rintro ⟨h1, h2⟩
    -- all states are met in the first n steps: they are distinct
    have hall : ∀ q, q < m.length → ∃ i, i < m.length ∧ itM m (x : Int) i = q := fun q hq => by
      obtain ⟨i, a, b⟩ := seenM_only m (x : Int) q m.length (by rw [h2, testBit_below]; simpa using hq)
      exact ⟨i, a, b⟩
    have hsur := fun q hq => List.mem_map.2 (by obtain ⟨i, a, b⟩ := hall q hq; exact ⟨i, List.mem_range.2 a, b⟩ : ∃ i, i ∈ List.range m.length ∧ itM m (x : Int) i = q)
    have hdn : DistI m (x : Int) m.length := fun a b hab hb e => by
      -- without b the list still holds all states
      have hlen := nodup_lenR (l := List.range m.length) (k := ((List.range m.length).filter fun i => i != b).map (itM m (x : Int))) List.nodup_range (fun q hq => by
        obtain ⟨i, hi, hiq⟩ := hall q (List.mem_range.1 hq)
        by_cases e2 : i = b
        · subst e2
          exact List.mem_map.2 ⟨a, List.mem_filter.2 ⟨List.mem_range.2 (by omega), by simp; omega⟩, by rw [e, hiq]⟩
        · exact List.mem_map.2 ⟨i, List.mem_filter.2 ⟨List.mem_range.2 hi, by simpa using e2⟩, hiq⟩)
      have hfl : ((List.range m.length).filter fun i => i != b).length < m.length := by
        have := List.length_filter_lt_length_iff_exists.2 (⟨b, List.mem_range.2 hb, by simp⟩ : ∃ i ∈ List.range m.length, ¬ (i != b) = true)
        simpa using this
      rw [List.length_map, List.length_range] at hlen
      omega
    have hjn := hd.le hv hx
    obtain ⟨i, hi, hie⟩ := wayL_has.1 hs
    have : j = m.length := by
      apply Classical.byContradiction
      intro hne
      exact hdn i j hi (by omega) hie
    subst this
    exact ⟨h1, rfl⟩
  · rintro ⟨h1, rfl⟩
    refine ⟨h1, ?_⟩
    -- n distinct states: all
    refine Nat.eq_of_testBit_eq fun q => ?_
    rw [testBit_below]
    by_cases hq : q < m.length
    · rw [decide_eq_true hq]
      apply Classical.byContradiction
      intro hb
      have hlen := nodup_lenR (k := (List.range m.length).filter fun i => i != q) hd.nodup (fun y hy => by
        obtain ⟨i, hi, rfl⟩ := List.mem_map.1 hy
        refine List.mem_filter.2 ⟨List.mem_range.2 (itM_lt hv hx i), ?_⟩
        have : itM m (x : Int) i ≠ q := fun e => hb (by rw [← e]; exact seenM_has m (x : Int) _ (List.mem_range.1 hi))
        simpa using this)
      have hfl : ((List.range m.length).filter fun i => i != q).length < m.length := by
        have := List.length_filter_lt_length_iff_exists.2 (⟨q, List.mem_range.2 hq, by simp⟩ : ∃ i ∈ List.range m.length, ¬ (i != q) = true)
        simpa using this
      rw [List.length_map, List.length_range] at hlen
      omega
    · rw [decide_eq_false hq]
      apply Classical.byContradiction
      intro hb
      obtain ⟨i, -, hi⟩ := seenM_only m (x : Int) q _ (by simpa using hb)
      have := itM_lt hv hx i
      omega
theorem CircIs.uniq {m : List (List Int)} {x y : Nat} {c d : Int} (h : CircIs m x c) (k : CircIs m y d) : x = y ∧ c = d := by
  rcases h with ⟨a1, a2, a3, rfl⟩ | ⟨a1, rfl, rfl⟩ <;> rcases k with ⟨b1, b2, b3, rfl⟩ | ⟨b1, rfl, rfl⟩
  · refine ⟨?_, rfl⟩
    rcases Nat.lt_trichotomy x y with e | e | e
    · have := b3 x e; rw [a2] at this; cases this
    · exact e
    · have := a3 y e; rw [b2] at this; cases this
  · have := b1 x a1; rw [a2] at this; cases this
  · have := a1 y b1; rw [b2] at this; cases this
  · exact ⟨rfl, rfl⟩
set_option maxRecDepth 100000 in
set_option maxHeartbeats 8000000 in
theorem rCircular_any (v : Value) (m : List (List Int)) (w : World) (h : Rows w v m) (hv : validM m = true) :
    Calls Tryd.prog 15 #[.agg #[v]] w fun e w' => ∃ (x : Nat) (b : Bool), e = .returned (.tuple #[.int .i64 x, .bool b]) ∧ CircIs m x (if b then 0 else 4) ∧ Below w.heap.size w w' := by
  obtain ⟨p1, p2, p3, p4, p5⟩ := valid_parts hv
  obtain ⟨j0, hj, hy0, hy1, hy2⟩ := info_parts infoInt
  obtain ⟨A, cap, rfl, hml, -⟩ := id h
  have hX := bal (Below.refl _ w) (.cells #[.slice A m.length cap] 24)
  have hbx : (w.alloc (.cells #[.slice A m.length cap] 24)).cell? ⟨w.heap.size, 0, none⟩ = some (.slice A m.length cap) := by simp [go_sem]
  go_enter Tryd.func15, Tryd.ntmps15
  go_wp2_with fail
  go_loopw [4] (fun xv wr => ∃ x : Nat, x ≤ letters m ∧ xv = .int .i64 x ∧ Hid (∀ y : Nat, y < x → cycB m (y : Int) = false) ∧ Below w.heap.size w wr ∧ wr.cell? ⟨w.heap.size, 0, none⟩ = some (.slice A m.length cap)) (fun xv _ => letters m - (intOf xv).toNat)
  case atStart => exact ⟨0, Nat.zero_le _, rfl, hid (fun s hs => absurd hs (Nat.not_lt_zero _)), hX, hbx⟩
  case round =>
    clear hX hbx
    obtain ⟨x, hx, rfl, hpre, hB, hbx⟩ := hrel
    obtain ⟨wo, rfl⟩ : ∃ wo : World, wo = wr := ⟨_, rfl⟩
    by_cases hlt : x < letters m
    · have hxm : (x : Int) < letters m := by omega
      go_wp2_with fail
      refine (rLetters_any _ m _ (h.below hB) hv).mono ?_
      rintro e w1 ⟨rfl, h1⟩
      have hB1 := btr hB h1
      have hbx1 := (h1.cell (p := ⟨w.heap.size, 0, none⟩) (World.block_lt_of_cell? _ _ hbx)).trans hbx
      have hlw1 : w.heap.size < w1.heap.size := World.block_lt_of_cell? _ _ hbx1
      clear hB hbx h1
      go_wp2_with fail
      go_loopw [5, 6] (fun wv sv wr => ∃ j s : Nat, sv = .int .i64 s ∧ itM m (x : Int) j = s ∧ Hid (DistI m (x : Int) j) ∧ j ≤ m.length ∧ Below w1.heap.size w1 wr ∧ wr.ownsRow w1.heap.size 3 1 wv j ((wayL m (x : Int) j).map fun y => .int .i64 y)) (fun wv _ _ => m.length + 1 - lenV wv)
      case atStart => exact ⟨0, 0, rfl, rfl, hid (fun a b _ hb => absurd hb (Nat.not_lt_zero _)), Nat.zero_le _, Below.refl _ _, ⟨rfl, .inl ⟨rfl, rfl⟩⟩⟩
      case round =>
        obtain ⟨j, s, rfl, hs, hd, hjn, hB2, ho⟩ := hrel
        have hsl := itM_lt hv hlt j
        have hwl : (wayL m (x : Int) j).length = j := by unfold wayL; simp
        obtain ⟨Aw, cw, rfl⟩ := ownsRow_slice ho
        have hI : Ints wr (.slice Aw j cw) (wayL m (x : Int) j) := own_ints ho hwl (by unfold big; omega)
        have hstop := fun hh => circ_stop hv hlt hd.out (by rw [hs]; exact hh)
        have hsucc := fun hh => hd.out.succ (by rw [hs]; exact hh)
        have hle := fun (hd : DistI m (x : Int) (j + 1)) => hd.le hv hlt
        rw [hs] at hsl hstop
        have hnx : itM m (x : Int) (j + 1) = nx m s (x : Int) := by rw [← hs]; rfl
        have hway : (wayL m (x : Int) (j + 1)).map (fun y => Value.int .i64 y) = (wayL m (x : Int) j).map (fun y => .int .i64 y) ++ [.int .i64 (s : Nat)] := by
          unfold wayL; rw [List.range_succ]; simp [hs]
        have Hnx := hid hnx
        have Hway := hid hway
        have Hstop := hid hstop
        have Hsucc := hid hsucc
        have Hle := hid hle
        have hbx2 := (hB2.cell (p := ⟨w.heap.size, 0, none⟩) (World.block_lt_of_cell? _ _ hbx1)).trans hbx1
        have hrr := h.below (btr hB1 hB2)
        clear hnx hway hstop hsucc hle hs
        generalize wayL m (x : Int) j = W at *
        cases hh : hasB W (s : Int) with
        | false =>
          have hd2 := Hsucc.out hh
          have hj2 := Hle.out hd2
          have Hd2 := hid hd2
          clear hd2
          obtain ⟨b, off, A', c', hA, hcell, hrow⟩ := getR_of (h.below hB1) hsl
          subst hA
          have hr6 := (p5 s hsl).1
          obtain ⟨b2, o2, hA2, hce⟩ := getI_of hrow (i := x) (by omega)
          subst hA2
          obtain ⟨n1, n2⟩ := nx_ok hv hsl (x := (x : Int)) (by omega) (by omega)
          rw [Int.toNat_natCast] at n2
          rw [n2] at hce
          rw [hr6] at hcell
          obtain ⟨q, hq⟩ : ∃ q, nx m s (x : Int) = q := ⟨_, rfl⟩
          rw [hq] at hce n1
          have Hq := hid hq
          have hsz := hB2.size
          have hss : (s : Int) < m.length := by omega
          have hxx : (x : Int) < letters m := by omega
          have e1 := hcell
          have e2 := hce
          clear hq n2 hrow hr6 hcell hce
          go_upto_region 7 with (go_at_call 38; refine (hasB_bool _ W (s : Int) false _ hI hh).mono ?_; rintro e w2 ⟨rfl, rfl⟩)
          go_wp2_with (at_builtin; refine wpList_append_own_at _ rfl _ _ 34 rfl w1.heap.size 3 j0 (.int .i64 0) 1 8 Tryd.underlying34 hj hy0 hy1 hy2 rfl (by decide) _ _ _ rfl (ho.alloc _) ⟨wr.heap.size, 0, none⟩ 1 1 [.int .i64 (s : Int)] rfl rfl (cell_one_new _ _ _) (by simp [Value.oneCell']) (by unfold maxLen; omega) (by omega) (by simp; omega) ?_; intro v' w5 hown' hgrow' _ hat; have hB5 := appended_below hB2 ho hsz hgrow'; obtain ⟨g5, c5, rfl⟩ := ownsRow_succ hown'; have k1 := (hB5.cell (p := ⟨w.heap.size, 0, none⟩) (World.block_lt_of_cell? _ _ hbx1)).trans hbx1; have k2 := (hB5.cell (p := ⟨b, off + s, none⟩) (World.block_lt_of_cell? _ _ e1)).trans e1; have k3 := (hB5.cell (p := ⟨b2, o2 + x, none⟩) (World.block_lt_of_cell? _ _ e2)).trans e2)
          go_roundw
          case rel => exact ⟨j + 1, q, rfl, by rw [Hnx.out, Hq.out], Hd2, by omega, hB5, by rw [Hway.out]; exact hown'⟩
          case measure => simp [lenV]; omega
        | true =>
          have hst := Hstop.out hh
          go_upto_region 9 with (go_at_call 38; refine (hasB_bool _ W (s : Int) true _ hI hh).mono ?_; rintro e w2 ⟨rfl, rfl⟩)
          by_cases s0 : s = 0
          · subst s0
            by_cases hjn2 : j = m.length
            · subst hjn2
              go_wp2_with fail
              go_ret2
              exact ⟨x, true, rfl, .inl ⟨hlt, by rw [hst]; simp, hpre.out, rfl⟩, btr hB1 hB2⟩
            · have n1 : ¬ (j : Int) = m.length := by omega
              have n2 : ((j : Int) == (m.length : Int)) = false := beq_eq_false_iff_ne.2 n1
              have n3 : (j == m.length) = false := by simpa using hjn2
              go_wp2_with fail
              go_roundw
              case rel => exact ⟨x + 1, by omega, by go_num, hid (fun y hy => by
                by_cases e : y = x
                · subst e; rw [hst, n3]; simp
                · exact hpre.out y (by omega)), btr hB1 hB2, hbx2⟩
              case measure => simp [intOf]; omega
          · have n1 : ¬ (s : Int) = 0 := by omega
            have n2 : ((s : Int) == 0) = false := beq_eq_false_iff_ne.2 n1
            have n3 : (s == 0) = false := by simpa using s0
            go_wp2_with fail
            go_roundw
            case rel => exact ⟨x + 1, by omega, by go_num, hid (fun y hy => by
              by_cases e : y = x
              · subst e; rw [hst, n3]; simp
              · exact hpre.out y (by omega)), btr hB1 hB2, hbx2⟩
            case measure => simp [intOf]; omega
    · obtain rfl : x = letters m := by omega
      have hxm : ¬ (letters m : Int) < letters m := by omega
      go_wp2_with fail
      refine (rLetters_any _ m _ (h.below hB) hv).mono ?_
      rintro e w1 ⟨rfl, h1⟩
      go_wp2_with fail
      go_ret2
      exact ⟨0, false, rfl, .inr ⟨hpre.out, rfl, rfl⟩, btr hB h1⟩
set_option maxRecDepth 100000 in
set_option maxHeartbeats 4000000 in
theorem rBound_none (v : Value) (m : List (List Int)) (w : World) (h : Rows w v m) (hv : validM m = true) (hno : ¬ allMerge m) :
    Calls Tryd.prog 16 #[.agg #[v]] w fun e w' => e = .returned (.tuple #[.int .i64 0, .bool false]) ∧ Below w.heap.size w w' := by
  obtain ⟨A, cap, rfl, hml, -⟩ := id h
  have hX := bal (Below.refl _ w) (.cells #[.slice A m.length cap] 24)
  have hbx : (w.alloc (.cells #[.slice A m.length cap] 24)).cell? ⟨w.heap.size, 0, none⟩ = some (.slice A m.length cap) := by simp [go_sem]
  have Hno := hid hno
  clear hno
  go_enter Tryd.func16, Tryd.ntmps16
  go_wp2_with fail
  refine (rHome_any _ m false _ (h.below hX) hv (by simpa using Hno.out)).mono ?_
  rintro e w3 ⟨rfl, h3⟩
  go_wp2_with fail
  go_ret2
  exact ⟨rfl, btr hX h3⟩
set_option maxRecDepth 100000 in
set_option maxHeartbeats 4000000 in
theorem rBound_ok (v : Value) (m : List (List Int)) (w : World) (h : Rows w v m) (hv : validM m = true) (hall : allMerge m) :
    Calls Tryd.prog 16 #[.agg #[v]] w fun e w' => e = .returned (.tuple #[.int .i64 (bndM m), .bool true]) ∧ Below w.heap.size w w' := by
  obtain ⟨p1, p2, -⟩ := valid_parts hv
  obtain ⟨A, cap, rfl, hml, -⟩ := id h
  have hX := bal (Below.refl _ w) (.cells #[.slice A m.length cap] 24)
  have hbx : (w.alloc (.cells #[.slice A m.length cap] 24)).cell? ⟨w.heap.size, 0, none⟩ = some (.slice A m.length cap) := by simp [go_sem]
  have Hall := hid hall
  have hsq := sq_le p2
  obtain ⟨q2, hq2⟩ : ∃ q2 : Nat, ((m.length : Int) - 1) * (m.length - 1) = q2 := ⟨(m.length - 1) * (m.length - 1), by rw [Int.natCast_mul, Int.natCast_sub p1]; rfl⟩
  have hq2b : (q2 : Int) ≤ 3600 := by
    have : (m.length - 1) * (m.length - 1) ≤ 60 * 60 := Nat.mul_le_mul (by omega) (by omega)
    have e : (((m.length - 1) * (m.length - 1) : Nat) : Int) = q2 := by rw [← hq2, Int.natCast_mul, Int.natCast_sub p1]; rfl
    omega
  have hbn : bndM m = if eulB m = true then (m.length : Int) * m.length - 3 * m.length + 3 else if circB m = true then (q2 : Int) else (((m.length * m.length * m.length - m.length) / 6 : Nat) : Int) := by
    unfold bndM; rw [hq2]
  have hmost := fun w => rMost_any m.length w p2
  obtain ⟨K, hK⟩ : ∃ K, (m.length * m.length * m.length - m.length) / 6 = K := ⟨_, rfl⟩
  rw [hK] at hmost hbn
  have Hm := hid hmost
  have Hbn := hid hbn
  have k1 : IntKind.i64.wrap ((m.length : Int) * m.length) = (m.length : Int) * m.length := IntWalk.i64_in _ (by omega)
  have k2 : IntKind.i64.wrap ((m.length : Int) * m.length - 3 * m.length) = (m.length : Int) * m.length - 3 * m.length := IntWalk.i64_in _ (by omega)
  have k3 : IntKind.i64.wrap ((m.length : Int) * m.length - 3 * m.length + 3) = (m.length : Int) * m.length - 3 * m.length + 3 := IntWalk.i64_in _ (by omega)
  have k4 : IntKind.i64.wrap (((m.length : Int) - 1) * (m.length - 1)) = q2 := by rw [hq2, IntWalk.i64_in _ (by omega)]
  clear hall hmost hbn hK hq2
  go_enter Tryd.func16, Tryd.ntmps16
  go_wp2_with fail
  refine (rHome_any _ m true _ (h.below hX) hv (by simpa using Hall.out)).mono ?_
  rintro e w1 ⟨rfl, h1⟩
  have hB1 := btr hX h1
  have hbx1 := (h1.cell (p := ⟨w.heap.size, 0, none⟩) (World.block_lt_of_cell? _ _ hbx)).trans hbx
  clear hX hbx h1
  cases hbE : eulB m with
  | true =>
    have HbE := hid hbE
    clear hbE
    go_wp2_with fail
    refine (rEulerian_any _ m _ (h.below hB1) hv).mono ?_
    rw [HbE.out]
    rintro e w2 ⟨rfl, h2⟩
    go_wp2_with fail
    go_ret2
    exact ⟨by rw [Hbn.out, if_pos HbE.out]; rfl, btr hB1 h2⟩
  | false =>
    have HbE := hid hbE
    clear hbE
    go_wp2_with fail
    refine (rEulerian_any _ m _ (h.below hB1) hv).mono ?_
    rw [HbE.out]
    rintro e w2 ⟨rfl, h2⟩
    have hB2 := btr hB1 h2
    have hbx2 := (h2.cell (p := ⟨w.heap.size, 0, none⟩) (World.block_lt_of_cell? _ _ hbx1)).trans hbx1
    go_wp2_with fail
    refine (rCircular_any _ m _ (h.below hB2) hv).mono ?_
    rintro e w3 ⟨x, b, rfl, hc, h3⟩
    have hz := hc.zero
    have hB3 := btr hB2 h3
    cases b with
    | true =>
      have hz : circB m = true := by rw [← hz]; rfl
      have Hz := hid hz
      clear hz hc
      go_wp2_with fail
      go_ret2
      exact ⟨by rw [Hbn.out, if_neg (by rw [HbE.out]; decide), if_pos Hz.out]; rfl, hB3⟩
    | false =>
      have hz : circB m = false := by rw [← hz]; rfl
      have Hz := hid hz
      clear hz hc
      go_wp2_with fail
      refine (Hm.out _).mono ?_
      rintro e w4 ⟨rfl, rfl⟩
      go_wp2_with fail
      go_ret2
      exact ⟨by rw [Hbn.out, if_neg (by rw [HbE.out]; decide), if_neg (by rw [Hz.out]; decide)]; rfl, hB3⟩
end Go.Proofs.YtphpablchlpagaaDoor
namespace Go.Proofs.YtphpablchlpagaaDoor
open Go.RowKit Go.Shelf
set_option maxRecDepth 100000 in
set_option maxHeartbeats 2000000 in
theorem kinds_form (v : Value) (m : List (List Int)) (w : World) (hT : Tab w) (h : Rows w v m) (hv : validM m = false) :
    Calls Tryd.prog 3 #[.agg #[v]] w fun e w' => e = .returned (.bool true) ∧ Below w.heap.size w w' := by
  obtain ⟨A, cap, rfl, hml, -⟩ := id h
  have hX := bal (Below.refl _ w) (.cells #[.slice A m.length cap] 24)
  have hbx := (Boxed.new w 24 (.slice A m.length cap)).cell
  go_enter Tryd.func3, Tryd.ntmps3
  go_wp2_with fail
  have hr := h.below hX
  have hTX := hT.on hX
  generalize w.alloc (.cells #[.slice A m.length cap] 24) = X at *
  refine (Eulerian_form _ m _ hr hv).mono ?_
  rintro e w1 ⟨rfl, h1⟩
  have c1 := (h1.cell (p := ⟨w.heap.size, 0, none⟩) (World.block_lt_of_cell? _ _ hbx)).trans hbx
  go_wp2_with fail
  refine (Circular_form _ m _ (hr.below h1) hv).mono ?_
  rintro e w2 ⟨rfl, h2⟩
  have B2 := btr h1 h2
  have c2 := (h2.cell (p := ⟨w.heap.size, 0, none⟩) (World.block_lt_of_cell? _ _ c1)).trans c1
  go_wp2_with fail
  refine (Bound_form _ m _ (hr.below B2) hv).mono ?_
  rintro e w3 ⟨rfl, h3⟩
  have B3 := btr B2 h3
  have c3 := (h3.cell (p := ⟨w.heap.size, 0, none⟩) (World.block_lt_of_cell? _ _ c2)).trans c2
  clear c1 c2 hbx
  go_wp2_with fail
  refine (rValid_bool _ m false _ (hr.below B3) hv).mono ?_
  rintro e w4 ⟨rfl, h4⟩
  have B4 := btr B3 h4
  go_wp2_with fail
  refine (awake6_any w4 (hTX.on B4)).mono ?_
  rintro e w5 ⟨rfl, h5⟩
  go_wp2_with fail
  go_ret
  exact ⟨rfl, btr hX (btr B4 h5)⟩
/-- What both sides return of Bound. -/
def BndAs (m : List (List Int)) (x c : Int) (b : Bool) : Prop :=
  (∀ v w, Rows w v m → Calls Tryd.prog 11 #[.agg #[v]] w (BoundRes w x c)) ∧
  (∀ v w, Rows w v m → Calls Tryd.prog 16 #[.agg #[v]] w fun e w' => e = .returned (.tuple #[.int .i64 x, .bool b]) ∧ Below w.heap.size w w') ∧ ((b = true ∧ c = 0) ∨ (b = false ∧ c = 4))
theorem bnd_as {m : List (List Int)} (hv : validM m = true) : ∃ x c b, BndAs m x c b := by
  by_cases ha : allMerge m
  · exact ⟨bndM m, 0, true, fun v w h => Bound_ok v m w h hv ha, fun v w h => rBound_ok v m w h hv ha, .inl ⟨rfl, rfl⟩⟩
  · exact ⟨0, 4, false, fun v w h => Bound_none v m w h hv ha, fun v w h => rBound_none v m w h hv ha, .inr ⟨rfl, rfl⟩⟩
set_option maxRecDepth 100000 in
set_option maxHeartbeats 4000000 in
theorem kinds_ok (v : Value) (m : List (List Int)) (w : World) (hT : Tab w) (h : Rows w v m) (hv : validM m = true) :
    Calls Tryd.prog 3 #[.agg #[v]] w fun e w' => e = .returned (.bool true) ∧ Below w.heap.size w w' := by
  obtain ⟨A, cap, rfl, hml, -⟩ := id h
  have hX := bal (Below.refl _ w) (.cells #[.slice A m.length cap] 24)
  have hbx := (Boxed.new w 24 (.slice A m.length cap)).cell
  obtain ⟨bn, bc, bb, hbn⟩ := bnd_as hv
  obtain ⟨bE, hbE⟩ : ∃ q, eulB m = q := ⟨_, rfl⟩
  have HbE := hid hbE
  have HP := hid hbn.1
  have HR := hid hbn.2.1
  have hbb := hbn.2.2
  clear hbE hbn
  go_enter Tryd.func3, Tryd.ntmps3
  go_wp2_with fail
  have hr := h.below hX
  have hTX := hT.on hX
  generalize w.alloc (.cells #[.slice A m.length cap] 24) = X at *
  refine (Eulerian_ok _ m bE _ hr hv HbE.out).mono ?_
  rintro e w1 ⟨rfl, h1⟩
  have c1 := (h1.cell (p := ⟨w.heap.size, 0, none⟩) (World.block_lt_of_cell? _ _ hbx)).trans hbx
  go_wp2_with fail
  refine (Circular_ok _ m _ (hr.below h1) hv).mono ?_
  rintro e w2 ⟨x, cc, rfl, hci, h2⟩
  have B2 := btr h1 h2
  have c2 := (h2.cell (p := ⟨w.heap.size, 0, none⟩) (World.block_lt_of_cell? _ _ c1)).trans c1
  have Hci := hid hci
  clear hci
  go_wp2_with fail
  refine (HP.out _ _ (hr.below B2)).mono ?_
  rintro e w3 ⟨rfl, h3⟩
  have B3 := btr B2 h3
  have c3 := (h3.cell (p := ⟨w.heap.size, 0, none⟩) (World.block_lt_of_cell? _ _ c2)).trans c2
  clear c1 c2 hbx
  go_wp2_with fail
  refine (rValid_bool _ m true _ (hr.below B3) hv).mono ?_
  rintro e w4 ⟨rfl, h4⟩
  have B4 := btr B3 h4
  have c4 := (h4.cell (p := ⟨w.heap.size, 0, none⟩) (World.block_lt_of_cell? _ _ c3)).trans c3
  clear c3
  go_wp2_with fail
  refine (rEulerian_any _ m _ (hr.below B4) hv).mono ?_
  rw [HbE.out]
  rintro e w5 ⟨rfl, h5⟩
  have B5 := btr B4 h5
  have c5 := (h5.cell (p := ⟨w.heap.size, 0, none⟩) (World.block_lt_of_cell? _ _ c4)).trans c4
  clear c4
  go_wp2_with fail
  refine (rCircular_any _ m _ (hr.below B5) hv).mono ?_
  rintro e w6 ⟨y, cb, rfl, hcj, h6⟩
  have B6 := btr B5 h6
  have c6 := (h6.cell (p := ⟨w.heap.size, 0, none⟩) (World.block_lt_of_cell? _ _ c5)).trans c5
  clear c5
  cases cb with
  | true =>
    obtain ⟨rfl, rfl⟩ : x = y ∧ cc = 0 := Hci.out.uniq hcj
    clear hcj Hci
    go_wp2_with fail
    refine (HR.out _ _ (hr.below B6)).mono ?_
    rintro e w7 ⟨rfl, h7⟩
    have B7 := btr B6 h7
    clear c6 HP HR
    rcases hbb with ⟨rfl, rfl⟩ | ⟨rfl, rfl⟩
    · go_wp2_with fail
      refine (awake6_any w7 (hTX.on B7)).mono ?_
      rintro e w8 ⟨rfl, h8⟩
      go_wp2_with fail
      go_ret
      exact ⟨rfl, btr hX (btr B7 h8)⟩
    · go_wp2_with fail
      refine (awake6_any w7 (hTX.on B7)).mono ?_
      rintro e w8 ⟨rfl, h8⟩
      go_wp2_with fail
      go_ret
      exact ⟨rfl, btr hX (btr B7 h8)⟩
  | false =>
    obtain ⟨rfl, rfl⟩ : x = y ∧ cc = 4 := Hci.out.uniq hcj
    clear hcj Hci
    go_wp2_with fail
    refine (HR.out _ _ (hr.below B6)).mono ?_
    rintro e w7 ⟨rfl, h7⟩
    have B7 := btr B6 h7
    clear c6 HP HR
    rcases hbb with ⟨rfl, rfl⟩ | ⟨rfl, rfl⟩
    · go_wp2_with fail
      refine (awake6_any w7 (hTX.on B7)).mono ?_
      rintro e w8 ⟨rfl, h8⟩
      go_wp2_with fail
      go_ret
      exact ⟨rfl, btr hX (btr B7 h8)⟩
    · go_wp2_with fail
      refine (awake6_any w7 (hTX.on B7)).mono ?_
      rintro e w8 ⟨rfl, h8⟩
      go_wp2_with fail
      go_ret
      exact ⟨rfl, btr hX (btr B7 h8)⟩
theorem eulerKinds_any (v : Value) (m : List (List Int)) (w : World) (hT : Tab w) (h : Rows w v m) :
    Calls Tryd.prog 3 #[.agg #[v]] w fun e w' => e = .returned (.bool true) ∧ Below w.heap.size w w' := by
  cases hv : validM m with
  | false => exact kinds_form v m w hT h hv
  | true => exact kinds_ok v m w hT h hv
end Go.Proofs.YtphpablchlpagaaDoor
namespace Go.Proofs.YtphpablchlpagaaDoor
open Go.RowKit Go.Shelf
theorem and_one_i64 (x : Int) : bits BinOp.and .i64 x 1 = x % 2 := by
  have h2 : (BitVec.ofInt 64 (1 : Int)).toNat = 1 := by decide
  show IntKind.i64.wrap ((BitVec.ofInt 64 x &&& BitVec.ofInt 64 (1 : Int)).toNat : Int) = _
  rw [BitVec.toNat_and, h2, Nat.and_one_is_mod, BitVec.toNat_ofInt]
  have e : (((x % ((2 ^ 64 : Nat) : Int)).toNat % 2 : Nat) : Int) = x % 2 := by omega
  rw [e, IntWalk.i64_in _ (by omega)]
/-- A bit of a number. -/
def bitB (b : Int) (s : Nat) : Bool := b / 2 ^ s % 2 == 1
theorem and_bit (b : Int) (s : Nat) : bits BinOp.and .i64 (b / 2 ^ s) 1 = if bitB b s = true then 1 else 0 := by
  rw [and_one_i64]
  unfold bitB
  by_cases h : b / 2 ^ s % 2 = 1
  · rw [h]; rfl
  · have h2 : b / 2 ^ s % 2 = 0 := by omega
    rw [h2]; rfl
theorem lit_rowsA (w : World) (a b c d e f : Int) : Rows ((((w.alloc (.cells #[.int .i64 a, .int .i64 b] 3)).alloc (.cells #[.int .i64 c, .int .i64 d] 3)).alloc (.cells #[.int .i64 e, .int .i64 f] 3)).alloc
    (.cells #[.slice (some ⟨w.heap.size, 0, none⟩) 2 2, .slice (some ⟨w.heap.size + 1, 0, none⟩) 2 2, .slice (some ⟨w.heap.size + 1 + 1, 0, none⟩) 2 2] 34)) (.slice (some ⟨w.heap.size + 1 + 1 + 1, 0, none⟩) 3 3) [[a, b], [c, d], [e, f]] := lit_rows w a b c d e f
set_option maxRecDepth 100000 in
set_option maxHeartbeats 2000000 in
theorem balances_any (w : World) (hT : Tab w) :
    Calls Tryd.prog 28 #[] w fun e w' => e = .returned (.bool true) ∧ Below w.heap.size w w' := by
  have hR := lit_rowsA w 0 1 0 2 1 2
  have hB := bal (bal (bal (bal (Below.refl _ w) (.cells #[.int .i64 0, .int .i64 1] 3)) (.cells #[.int .i64 0, .int .i64 2] 3)) (.cells #[.int .i64 1, .int .i64 2] 3)) (.cells #[.slice (some ⟨w.heap.size, 0, none⟩) 2 2, .slice (some ⟨w.heap.size + 1, 0, none⟩) 2 2, .slice (some ⟨w.heap.size + 1 + 1, 0, none⟩) 2 2] 34)
  go_enter Tryd.func28, Tryd.ntmps28
  go_wp2_with fail
  refine (Eulerian_ok _ m6b true _ hR m6b_valid (by decide +kernel)).mono ?_
  rintro e w1 ⟨rfl, h1⟩
  have hB1 := btr hB h1
  clear hR hB h1
  have hR := lit_rowsA w1 0 1 0 2 1 2
  have hB := bal (bal (bal (bal (Below.refl _ w1) (.cells #[.int .i64 0, .int .i64 1] 3)) (.cells #[.int .i64 0, .int .i64 2] 3)) (.cells #[.int .i64 1, .int .i64 2] 3)) (.cells #[.slice (some ⟨w1.heap.size, 0, none⟩) 2 2, .slice (some ⟨w1.heap.size + 1, 0, none⟩) 2 2, .slice (some ⟨w1.heap.size + 1 + 1, 0, none⟩) 2 2] 34)
  go_wp2_with fail
  refine (Bound_ok _ m6b _ hR m6b_valid m6b_all).mono ?_
  rw [m6b_bnd]
  rintro e w2 ⟨rfl, h2⟩
  go_wp2
  go_ret
  exact ⟨rfl, btr hB1 (btr hB h2)⟩
set_option maxRecDepth 100000 in
set_option maxHeartbeats 1000000 in
theorem topKari_bad (v : Value) (m : List (List Int)) (b : Int) (w : World) (hT : Tab w) (h : Rows w v m) (hbad : (validM m && decide (m.length ≤ 9)) = false) :
    Calls Tryd.prog 8 #[.agg #[v], .int .i64 b] w fun e w' => e = .returned (.bool true) ∧ Below w.heap.size w w' := by
  obtain ⟨A, cap, rfl, hml, -⟩ := id h
  have hX := bal (Below.refl _ w) (.cells #[.slice A m.length cap] 24)
  have hbx := (Boxed.new w 24 (.slice A m.length cap)).cell
  have Hbad := hid hbad
  clear hbad
  go_enter Tryd.func8, Tryd.ntmps8
  go_wp2_with fail
  have hr := h.below hX
  have hTX := hT.on hX
  generalize w.alloc (.cells #[.slice A m.length cap] 24) = X at *
  cases hv : validM m with
  | false =>
    refine (tValid_bool _ m false _ hr hv).mono ?_
    rintro e w1 ⟨rfl, h1⟩
    go_wp2_with fail
    refine (balances_any w1 (hTX.on h1)).mono ?_
    rintro e w4 ⟨rfl, h4⟩
    go_wp2
    go_ret
    exact ⟨rfl, btr hX (btr h1 h4)⟩
  | true =>
    have h9 : 9 < m.length := by have := Hbad.out; rw [hv] at this; simpa using this
    refine (tValid_bool _ m true _ hr hv).mono ?_
    rintro e w1 ⟨rfl, h1⟩
    have c1 := (h1.cell (p := ⟨w.heap.size, 0, none⟩) (World.block_lt_of_cell? _ _ hbx)).trans hbx
    have d1 : decide ((9 : Int) < m.length) = true := by simp; omega
    go_wp2_with fail
    refine (balances_any w1 (hTX.on h1)).mono ?_
    rintro e w4 ⟨rfl, h4⟩
    go_wp2
    go_ret
    exact ⟨rfl, btr hX (btr h1 h4)⟩
theorem more_set {m : List (List Int)} (hv : validM m = true) (b : Int) {u : List Int} (h : FirstBig m (ofList (pick (bitB b) m.length)) u) (hu : isWordM m u = true) : (pick (bitB b) m.length).length < (pick (fun s => bitB b (runM m s u)) m.length).length := by
  have hs := pick_set (m := m) (bitB b)
  have h1 := pre_longer hv hs h
  rw [← preimage_pick hv hs hu] at h1
  have e : pick (fun t => hasB (pick (bitB b) m.length) ((runM m t u : Nat) : Int)) m.length = pick (fun s => bitB b (runM m s u)) m.length := by
    unfold pick
    congr 1
    refine List.filter_congr fun t ht => ?_
    have ht := List.mem_range.1 ht
    have hr := runM_lt hv u t ht (isWordM_all hu)
    show hasB (pick (bitB b) m.length) ((runM m t u : Nat) : Int) = _
    rw [hasB_testBit (set_pos hs), pick_testBit, decide_eq_true hr, Bool.true_and]
  rw [e] at h1
  exact h1
set_option maxRecDepth 100000 in
set_option maxHeartbeats 16000000 in
theorem topKari_walk (v : Value) (m : List (List Int)) (b : Int) (w : World) (hT : Tab w) (h : Rows w v m) (hv : validM m = true) (h9 : m.length ≤ 9) :
    Calls Tryd.prog 8 #[.agg #[v], .int .i64 b] w fun e w' => e = .returned (.bool true) ∧ Below w.heap.size w w' := by
  obtain ⟨p1, p2, -⟩ := valid_parts hv
  obtain ⟨j0, hj, hy0, hy1, hy2⟩ := info_parts infoInt
  obtain ⟨A, cap, rfl, hml, -⟩ := id h
  have hX := bal (Below.refl _ w) (.cells #[.slice A m.length cap] 24)
  have hbx := (Boxed.new w 24 (.slice A m.length cap)).cell
  have hd9 : decide ((9 : Int) < m.length) = false := by simp; omega
  have hd9n : ¬ (9 : Int) < m.length := by omega
  go_enter Tryd.func8, Tryd.ntmps8
  go_wp2_with fail
  have hr := h.below hX
  have hTX := hT.on hX
  generalize w.alloc (.cells #[.slice A m.length cap] 24) = X0 at *
  refine (tValid_bool _ m true _ hr hv).mono ?_
  rintro e X ⟨rfl, h1⟩
  have c1 := (h1.cell (p := ⟨w.heap.size, 0, none⟩) (World.block_lt_of_cell? _ _ hbx)).trans hbx
  have hBX := btr hX h1
  have hrX := hr.below h1
  have hTXX := hTX.on h1
  clear hbx hX h1 hr hTX
  have hlt : w.heap.size < X.heap.size := World.block_lt_of_cell? _ _ c1
  go_wp2_with fail
  go_loopw [6, 7] (fun r i wr => ∃ k : Nat, k ≤ m.length ∧ i = .int .i64 k ∧ Below X.heap.size X wr ∧ wr.ownsRow X.heap.size 3 1 r (pick (bitB b) k).length ((pick (bitB b) k).map fun x => .int .i64 x)) (fun _ i _ => m.length - (intOf i).toNat)
  case atStart => exact ⟨0, Nat.zero_le _, rfl, Below.refl _ _, ⟨rfl, .inl ⟨rfl, rfl⟩⟩⟩
  case round =>
    obtain ⟨k, hk, rfl, hB, ho⟩ := hrel
    have hsz := hB.size
    by_cases hlt' : k < m.length
    · have hkm : (k : Int) < m.length := by omega
      have Hs := hid (pick_succ (bitB b) k)
      have hpl := pick_length (bitB b) k
      have hand := and_bit b k
      have Hlen : Hid ((pick (bitB b) (k + 1)).length = (pick (bitB b) k).length + (if bitB b k then 1 else 0)) := by
        have := congrArg List.length Hs.out
        unfold Hid
        simp only [List.length_map, List.length_append] at this
        rw [this]
        split <;> simp
      generalize pick (bitB b) k = pk at *
      cases hb : bitB b k with
      | true =>
        rw [hb, if_pos rfl] at hand
        go_wp2_with (at_builtin; refine wpList_append_own_at _ rfl _ _ 34 rfl X.heap.size 3 j0 (.int .i64 0) 1 8 Tryd.underlying34 hj hy0 hy1 hy2 rfl (by decide) _ _ _ rfl (ho.alloc _) ⟨wr.heap.size, 0, none⟩ 1 1 [.int .i64 (k : Int)] rfl rfl (cell_one_new _ _ _) (by simp [Value.oneCell']) (by unfold maxLen; omega) (by omega) (by simp; omega) ?_; intro v' w5 hown' hgrow' _ hat)
        go_roundw
        case rel =>
          refine ⟨k + 1, by omega, by go_num, appended_below hB ho hsz hgrow', ?_⟩
          rw [Hs.out, Hlen.out, if_pos hb, if_pos hb]
          exact hown'
        case measure => simp [intOf]; omega
      | false =>
        rw [hb] at hand
        simp only [Bool.false_eq_true, if_false] at hand
        go_wp2_with fail
        go_roundw
        case rel =>
          refine ⟨k + 1, by omega, by go_num, hB, ?_⟩
          rw [Hs.out, Hlen.out, if_neg (by rw [hb]; decide), if_neg (by rw [hb]; decide), List.append_nil, Nat.add_zero]
          exact ho
        case measure => simp [intOf]; omega
    · obtain rfl : k = m.length := by omega
      have hkm : ¬ (m.length : Int) < m.length := by omega
      have hset := pick_set (m := m) (bitB b)
      have hpl := pick_length (bitB b) m.length
      have hmore := fun u h hu => more_set hv b (u := u) h hu
      obtain ⟨sl, hsl⟩ : ∃ sl, pick (bitB b) m.length = sl := ⟨_, rfl⟩
      rw [hsl] at ho hset hpl hmore
      have Hmore := hid hmore
      obtain ⟨As, cs, rfl⟩ := ownsRow_slice ho
      have hsi : Ints wr (.slice As sl.length cs) sl := Ints.of_own ho (by unfold big; omega)
      obtain ⟨n, hn⟩ : ∃ n, sl.length = n := ⟨_, rfl⟩
      rw [hn] at hsi hpl ⊢
      have Hn := hid hn
      have hBw := btr hBX hB
      have hrr := hrX.below hB
      have hTr := hTXX.on hB
      have c2 := (hB.cell (p := ⟨w.heap.size, 0, none⟩) (World.block_lt_of_cell? _ _ c1)).trans c1
      clear hsl ho hB hmore hBX hrX hTXX c1 hn
      obtain ⟨Y, rfl⟩ : ∃ Y : World, Y = wr := ⟨_, rfl⟩
      obtain ⟨bE, hbE⟩ : ∃ q, eulB m = q := ⟨_, rfl⟩
      have HbE := hid hbE
      clear hbE
      go_wp2_with fail
      refine (Eulerian_ok _ m bE _ hrr hv HbE.out).mono ?_
      rintro e w1 ⟨rfl, h1⟩
      have B1 := h1
      have c3 := (h1.cell (p := ⟨w.heap.size, 0, none⟩) (World.block_lt_of_cell? _ _ c2)).trans c2
      clear h1
      go_wp2_with fail
      refine (Circular_ok _ m _ (hrr.below B1) hv).mono ?_
      rintro e w2 ⟨x, cc, rfl, hci, h2⟩
      have B2 := btr B1 h2
      have c4 := (h2.cell (p := ⟨w.heap.size, 0, none⟩) (World.block_lt_of_cell? _ _ c3)).trans c3
      clear h2 c3
      have hcc : (cc = 0 ∧ circB m = true) ∨ cc = 4 := by
        rcases hci with ⟨q1, q2, -, q4⟩ | ⟨-, -, q4⟩
        · exact .inl ⟨q4, circB_iff.2 ⟨x, q1, q2⟩⟩
        · exact .inr q4
      clear hci
      by_cases hall : allMerge m
      · have Hall := hid hall
        have hsq : m.length * m.length ≤ 9 * 9 := Nat.mul_le_mul h9 h9
        have hcu : m.length * m.length * m.length ≤ 9 * 9 * 9 := Nat.mul_le_mul hsq h9
        have hes := fun he L hm => eul_short hv hall he (L := L) hm
        have hcs := fun hc L hm => circ_short hv hall hc (L := L) hm
        have has := fun L hm => any_short hv hall (L := L) hm
        have hge : m.length ≤ m.length * m.length * m.length := by
          have := Nat.mul_le_mul (Nat.mul_le_mul p1 p1) (Nat.le_refl m.length)
          simpa using this
        obtain ⟨q, hq⟩ : ∃ q, m.length * m.length = q := ⟨_, rfl⟩
        obtain ⟨q3, hq3⟩ : ∃ q3, m.length * m.length * m.length = q3 := ⟨_, rfl⟩
        have hqi : (m.length : Int) * m.length = q := by rw [← hq]; push_cast; rfl
        have hq3i : (q : Int) * m.length = q3 := by rw [← hq3, ← hq]; push_cast; rfl
        obtain ⟨q2, hq2⟩ : ∃ q2 : Nat, ((m.length : Int) - 1) * (m.length - 1) = q2 := ⟨(m.length - 1) * (m.length - 1), by rw [Int.natCast_mul, Int.natCast_sub p1]; rfl⟩
        have hq2b : (q2 : Int) ≤ 81 := by
          have : (m.length - 1) * (m.length - 1) ≤ 9 * 9 := Nat.mul_le_mul (by omega) (by omega)
          have e : (((m.length - 1) * (m.length - 1) : Nat) : Int) = q2 := by rw [← hq2, Int.natCast_mul, Int.natCast_sub p1]; rfl
          omega
        rw [hqi] at hes
        rw [hq2] at hcs
        rw [hq3] at has hge hcu
        rw [hq] at hsq
        have k1 : IntKind.i64.wrap ((m.length : Int) * m.length) = q := by rw [hqi, IntWalk.i64_in _ (by omega)]
        have k2 : IntKind.i64.wrap ((q : Int) * m.length) = q3 := by rw [hq3i, IntWalk.i64_in _ (by omega)]
        have k3 : IntKind.i64.wrap (((m.length : Int) - 1) * (m.length - 1)) = q2 := by rw [hq2, IntWalk.i64_in _ (by omega)]
        have Hes := hid hes
        have Hcs := hid hcs
        have Has := hid has
        clear hall hes hcs has hqi hq3i hq2 hq hq3
        go_wp2_with fail
        refine (Reset_ok _ m _ (hTr.on B2) (hrr.below B2) hv Hall.out).mono ?_
        rintro e w3 ⟨r3, rfl, ho3, h3⟩
        obtain ⟨A3, k3', rfl⟩ := ownsRow_slice ho3
        have B3 := btr B2 h3
        have c5 := (h3.cell (p := ⟨w.heap.size, 0, none⟩) (World.block_lt_of_cell? _ _ c4)).trans c4
        clear h3 c4 ho3
        generalize (resetW m).length = lr at *
        obtain ⟨c, l, hm, hS⟩ := Shortest_min _ m w3 (hTr.on B3) (hrr.below B3) hv (by omega)
        obtain ⟨rfl, hk⟩ : c = 0 ∧ ∀ (u : List Int) (t : Nat), isWordM m u = true → (∀ s, s < m.length → runM m s u = t) → l.length ≤ u.length := by
          rcases hm with ⟨-, a, -, -, hk⟩ | ⟨hn, -⟩
          · exact ⟨a, hk⟩
          · exact absurd Hall.out hn
        clear hm
        have g1 := Has.out _ hk
        have g2 := fun he => Hes.out he _ hk
        have g3 := fun hc => Hcs.out hc _ hk
        have HS := hid hS
        have Hg2 := hid g2
        have Hg3 := hid g3
        clear hS hk g2 g3 Hes Hcs Has
        go_wp2_with fail
        refine HS.out.mono ?_
        rintro e w4 ⟨A4, k4, rfl, -, h4⟩
        have B4 := btr B3 h4
        have c6 := (h4.cell (p := ⟨w.heap.size, 0, none⟩) (World.block_lt_of_cell? _ _ c5)).trans c5
        clear HS h4 c5
        generalize l.length = L at *
        have f1 : ¬ (q3 : Int) - m.length < 6 * L := by omega
        have f2 : decide ((q3 : Int) - m.length < 6 * L) = false := decide_eq_false f1
        go_upto_region 14 with fail
        go_cut [83] from 67 to 83 (fun t wc => t = .bool false ∧ w4 = wc)
        case first =>
          rcases hcc with ⟨rfl, -⟩ | rfl
          · go_wp2_with fail
            go_meet
            exact ⟨rfl, rfl⟩
          · go_wp2_with fail
            go_meet
            exact ⟨rfl, rfl⟩
        case rest =>
        obtain ⟨rfl, rfl⟩ := hcut
        go_upto_region 18 with fail
        go_cut [126] from 87 to 126 (fun t wc => t = .bool false ∧ w4 = wc)
        case first =>
          cases bE with
          | true =>
            have g4 := Hg2.out HbE.out
            have f3 : ¬ (q : Int) - 3 * m.length + 3 < L := by omega
            have f4 : decide ((q : Int) - 3 * m.length + 3 < L) = false := decide_eq_false f3
            rcases hcc with ⟨rfl, hc⟩ | rfl
            · have g5 := Hg3.out hc
              have f5 : ¬ (q2 : Int) < L := by omega
              have f6 : decide ((q2 : Int) < L) = false := decide_eq_false f5
              have f7 : ¬ q2 < L := by omega
              have f8 : decide (q2 < L) = false := decide_eq_false f7
              go_wp2_with fail
              go_meet
              exact ⟨rfl, rfl⟩
            · go_wp2_with fail
              go_meet
              exact ⟨rfl, rfl⟩
          | false =>
            rcases hcc with ⟨rfl, hc⟩ | rfl
            · have g5 := Hg3.out hc
              have f5 : ¬ (q2 : Int) < L := by omega
              have f6 : decide ((q2 : Int) < L) = false := decide_eq_false f5
              have f7 : ¬ q2 < L := by omega
              have f8 : decide (q2 < L) = false := decide_eq_false f7
              go_wp2_with fail
              go_meet
              exact ⟨rfl, rfl⟩
            · go_wp2_with fail
              go_meet
              exact ⟨rfl, rfl⟩
        case rest =>
          obtain ⟨rfl, rfl⟩ := hcut
          clear f1 f2 hcc g1 Hg2 Hg3 k1 k2 k3 hsq hcu hge hq2b
          cases bE with
          | false =>
            go_wp2_with fail
            refine (balances_any _ (hTr.on B4)).mono ?_
            rintro e w5 ⟨rfl, h5⟩
            go_wp2_with fail
            go_ret
            exact ⟨rfl, btr hBw (btr B4 h5)⟩
          | true =>
            by_cases hn0 : n = 0
            · subst hn0
              go_wp2_with fail
              refine (balances_any _ (hTr.on B4)).mono ?_
              rintro e w5 ⟨rfl, h5⟩
              go_wp2_with fail
              go_ret
              exact ⟨rfl, btr hBw (btr B4 h5)⟩
            · have z1 : ¬ (n : Int) = 0 := by omega
              have z2 : ((n : Int) == 0) = false := beq_eq_false_iff_ne.2 z1
              by_cases hnn : n = m.length
              · subst hnn
                go_wp2_with fail
                refine (balances_any _ (hTr.on B4)).mono ?_
                rintro e w5 ⟨rfl, h5⟩
                go_wp2_with fail
                go_ret
                exact ⟨rfl, btr hBw (btr B4 h5)⟩
              · have z3 : ¬ (n : Int) = m.length := by omega
                have z4 : ((n : Int) == (m.length : Int)) = false := beq_eq_false_iff_ne.2 z3
                go_wp2_with fail
                refine (Extend_ok _ _ m sl _ (hTr.on B4) (hrr.below B4) (hsi.below B4) hv hset (by omega)).mono ?_
                rintro e w5 ⟨⟨u, r, hF, hul, rfl, ho⟩ | ⟨hno, rfl⟩, h5⟩
                · have B5 := btr B4 h5
                  have c7 := (h5.cell (p := ⟨w.heap.size, 0, none⟩) (World.block_lt_of_cell? _ _ c6)).trans c6
                  have hi := Ints.of_own ho (by unfold big; omega)
                  have hfw := first_word hF hul
                  have hkw := kari_word hv hset (by rw [Hn.out]; exact hn0) (by rw [Hn.out]; exact hnn) HbE.out Hall.out hF
                  have hmo := Hmore.out u hF hfw
                  rw [Hn.out] at hmo
                  have Hmo := hid hmo
                  have hua := hid (isWordM_all hfw)
                  clear ho hF h5 c6 hmo z1 z2 z3 z4
                  obtain ⟨Ar, cr, rfl, -, -⟩ := id hi
                  obtain ⟨ul, hul'⟩ : ∃ q, u.length = q := ⟨_, rfl⟩
                  rw [hul'] at hi hul hkw ⊢
                  have Hul := hid hul'
                  clear hul'
                  have y1 : ¬ (m.length : Int) - 1 < ul := by omega
                  have y2 : decide ((m.length : Int) - 1 < ul) = false := decide_eq_false y1
                  go_wp2_with fail
                  refine (tRight_any _ _ m u _ (hrr.below B5) hi hv hfw).mono ?_
                  rintro e w6 ⟨rfl, h6⟩
                  have B6 := btr B5 h6
                  have c8 := (h6.cell (p := ⟨w.heap.size, 0, none⟩) (World.block_lt_of_cell? _ _ c7)).trans c7
                  have hi6 := hi.below h6
                  clear h6 c7 hi y1 y2
                  go_wp2_with fail
                  go_loopw [17, 18] (fun mv sv wr => ∃ k : Nat, k ≤ m.length ∧ sv = .int .i64 k ∧ mv = .int .i64 (pick (fun s => bitB b (runM m s u)) k).length ∧ Below w6.heap.size w6 wr) (fun _ sv _ => m.length - (intOf sv).toNat)
                  case atStart => exact ⟨0, Nat.zero_le _, rfl, rfl, Below.refl _ _⟩
                  case round =>
                    obtain ⟨k, hk, rfl, rfl, hB⟩ := hrel
                    have hpk := pick_length (fun s => bitB b (runM m s u)) k
                    have Hs := hid (pick_succ (fun s => bitB b (runM m s u)) k)
                    have Hlen : Hid ((pick (fun s => bitB b (runM m s u)) (k + 1)).length = (pick (fun s => bitB b (runM m s u)) k).length + (if bitB b (runM m k u) then 1 else 0)) := by
                      have := congrArg List.length Hs.out
                      unfold Hid
                      simp only [List.length_map, List.length_append] at this
                      rw [this]
                      split <;> simp
                    have c9 := (hB.cell (p := ⟨w.heap.size, 0, none⟩) (World.block_lt_of_cell? _ _ c8)).trans c8
                    by_cases hlt' : k < m.length
                    · have hkm : (k : Int) < m.length := by omega
                      have hrl := runM_lt hv u k hlt' hua.out
                      obtain ⟨y, hy⟩ : ∃ y, runM m k u = y := ⟨_, rfl⟩
                      have hand := and_bit b y
                      rw [hy] at hrl Hlen
                      have Hy := hid hy
                      obtain ⟨pk, hpk'⟩ : ∃ q, (pick (fun s => bitB b (runM m s u)) k).length = q := ⟨_, rfl⟩
                      rw [hpk'] at hpk Hlen
                      have Hpk := hid hpk'
                      rw [hpk']
                      clear hy hpk' Hs
                      cases hb : bitB b y with
                      | true =>
                        rw [hb, if_pos rfl] at hand
                        go_wp2_with (go_at_call 30; refine (tLead_as _ _ m k y u _ (hrr.below (btr B6 hB)) (hi6.below hB) hv hlt' hua.out Hy).mono ?_; rintro e w7 ⟨rfl, h7⟩)
                        go_roundw
                        case rel => exact ⟨k + 1, by omega, by go_num, by rw [Hlen.out, if_pos hb]; go_num, btr hB h7⟩
                        case measure => simp [intOf]; omega
                      | false =>
                        rw [hb] at hand
                        simp only [Bool.false_eq_true, if_false] at hand
                        go_wp2_with (go_at_call 30; refine (tLead_as _ _ m k y u _ (hrr.below (btr B6 hB)) (hi6.below hB) hv hlt' hua.out Hy).mono ?_; rintro e w7 ⟨rfl, h7⟩)
                        go_roundw
                        case rel => exact ⟨k + 1, by omega, by go_num, by rw [Hlen.out, if_neg (by rw [hb]; decide)]; rfl, btr hB h7⟩
                        case measure => simp [intOf]; omega
                    · obtain rfl : k = m.length := by omega
                      have hkm : ¬ (m.length : Int) < m.length := by omega
                      have hmo := Hmo.out
                      clear Hs Hlen
                      generalize (pick (fun s => bitB b (runM m s u)) m.length).length = pk at *
                      have x1 : (n : Int) < pk := by omega
                      have x2 : decide ((n : Int) < pk) = true := decide_eq_true x1
                      have x3 : decide (n < pk) = true := decide_eq_true hmo
                      go_wp2_with fail
                      refine (balances_any _ (hTr.on (btr B6 hB))).mono ?_
                      rintro e w8 ⟨rfl, h8⟩
                      go_wp2_with fail
                      go_ret
                      exact ⟨rfl, btr hBw (btr B6 (btr hB h8))⟩
                · exact (kari_some hv hset (by rw [Hn.out]; exact hn0) (by rw [Hn.out]; exact hnn) HbE.out Hall.out hno).elim
      · have Hno := hid hall
        clear hall
        go_wp2_with fail
        refine (Reset_none _ m _ (hrr.below B2) hv Hno.out).mono ?_
        rintro e w3 ⟨rfl, h3⟩
        have B3 := btr B2 h3
        have c5 := (h3.cell (p := ⟨w.heap.size, 0, none⟩) (World.block_lt_of_cell? _ _ c4)).trans c4
        clear h3 c4
        obtain ⟨c, l, hm, hS⟩ := Shortest_min _ m w3 (hTr.on B3) (hrr.below B3) hv (by omega)
        obtain ⟨rfl, rfl⟩ : c = 4 ∧ l = [] := by
          rcases hm with ⟨ha, -⟩ | ⟨-, a, b⟩
          · exact absurd ha Hno.out
          · exact ⟨a, b⟩
        clear hm
        have HS := hid hS
        clear hS
        go_wp2_with fail
        refine HS.out.mono ?_
        rintro e w4 ⟨A4, k4, rfl, -, h4⟩
        have B4 := btr B3 h4
        rcases hcc with ⟨rfl, -⟩ | rfl
        · go_wp2_with fail
          refine (balances_any w4 (hTr.on B4)).mono ?_
          rintro e w5 ⟨rfl, h5⟩
          go_wp2_with fail
          go_ret
          exact ⟨rfl, btr hBw (btr B4 h5)⟩
        · go_wp2_with fail
          refine (balances_any w4 (hTr.on B4)).mono ?_
          rintro e w5 ⟨rfl, h5⟩
          go_wp2_with fail
          go_ret
          exact ⟨rfl, btr hBw (btr B4 h5)⟩
theorem topKari_any (v : Value) (m : List (List Int)) (b : Int) (w : World) (hT : Tab w) (h : Rows w v m) :
    Calls Tryd.prog 8 #[.agg #[v], .int .i64 b] w fun e w' => e = .returned (.bool true) ∧ Below w.heap.size w w' := by
  cases hv : validM m with
  | false => exact topKari_bad v m b w hT h (by rw [hv]; rfl)
  | true =>
    by_cases h9 : m.length ≤ 9
    · exact topKari_walk v m b w hT h hv h9
    · exact topKari_bad v m b w hT h (by rw [hv, decide_eq_false h9]; rfl)
end Go.Proofs.YtphpablchlpagaaDoor
