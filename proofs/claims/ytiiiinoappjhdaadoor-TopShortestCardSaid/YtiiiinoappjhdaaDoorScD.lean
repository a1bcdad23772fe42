/-
  Texts that the proof of the law stands on: W, V, O2, G4, Y18, Y31, Y32, Y24, Y27.
-/
import Derived.Test.YtiiiinoappjhdaaDoorScC
import Derived.WalkKit
import Derived.ProofKit
import Derived.OpenShut
import Derived.Deep.DeepHandedRow
import Derived.Deep.DeepWitnessRowRef
import Derived.Lib.LaidTab
import Derived.Lib.LaidIn
import Derived.Lib.ItoaNum
import Derived.WideKeyArgs
import Derived.Test.YtiiiinoappjhdaaDoorRows
import Derived.Deep.CutRange
namespace Go.Proofs.YtiiiinoappjhdaaDoor
open Go.ChangeShapes Go.WideShapes Go.ChangeAt Go.RowKit
theorem own : ownKnob Tryd.prog.godebug = none := by kernel_rfl
theorem gTab : Tryd.prog.globalNamed "math/bits.deBruijn64tab" = some 0 := by kernel_rfl
theorem gTabType : (Tryd.prog.globals[0]?).map (·.type) = some 101 := by kernel_rfl
theorem cellsTab : Tryd.prog.cellsOf 101 = 64 := by kernel_rfl
theorem cellsU8 : Tryd.prog.cellsOf 5 = 1 := by kernel_rfl
section
variable {H : Type} {enc : TypeId × Value → H}
/-- All arguments read as they did. -/
theorem TrodAll_stays {P : Program} (hl : laidOutB P = true) {W W' : World} {sp : Nat → Bool} : ∀ {ts : List TypeId} {vs : List Value} {ds : List (DataW H)} {ps : List MemPlace},
    (∀ t ∈ ts, P.readableRec t = true ∧ t < P.types.size) → DataW.TrodAll enc P W 0 (fun _ => true) true ts vs ds ps → (∀ x ∈ ps, W.sameAt W' x) → (∀ x ∈ ps, sp x.block = true) → DataW.TrodAll enc P W' 0 sp true ts vs ds ps
  | [], vs, ds, ps, _, h, _, _ => by cases vs <;> cases ds <;> simp_all [DataW.TrodAll]
  | t :: ts, vs, ds, ps, ht, h, hs, hsp => by
    obtain ⟨v, vs', d, ds', p, q, rfl, rfl, rfl, h0, r0⟩ := trodAll_cons h
    exact trodAll_cons_mk (WideElems.Trod_stays hl (ht t (by simp)).1 (ht t (by simp)).2 h0 (fun x hx => hs x (List.mem_append_left _ hx)) (fun x hx => hsp x (List.mem_append_left _ hx)))
      (TrodAll_stays hl (fun u hu => ht u (by simp [hu])) r0 (fun x hx => hs x (List.mem_append_right _ hx)) (fun x hx => hsp x (List.mem_append_right _ hx)))
set_option maxRecDepth 100000 in
/-- An automaton that came in. -/
theorem auto_of {W : World} {base : Nat} {v : Value} {d : DataW H} {p : List MemPlace} (hv : Value.okWide Tryd.prog W .any base 24 v) (h : DataW.Trod enc Tryd.prog W 0 (fun _ => true) true 24 v d p)
    (hw : ∀ n ∈ d.weights Tryd.prog 24, n ≤ reachBytes) : ∃ c m, v = .agg #[c] ∧ Rows W c m := by
  obtain ⟨cs, rfl, hs⟩ := okWide_struct Tryd.underlying24 hv
  rw [cells_auto] at hs
  obtain ⟨c, rfl⟩ : ∃ c, cs = #[c] := by
    match cs, hs with
    | ⟨[c]⟩, _ => exact ⟨c, rfl⟩
  obtain ⟨fuel, hf⟩ := h
  obtain ⟨y0, n, hx, _, h0⟩ := trod_struct1 Tryd.underlying24 hf
  have hd : d = .agg [y0.1] := (Prod.mk.inj hx).1
  subst hd
  obtain ⟨m, hm⟩ := rows_of_trod (fuel := n) (c := c) (x := y0) h0 (fun k hk => hw k (by
    rw [DataW.weights, Tryd.underlying24]
    simp only [List.map_cons, List.map_nil, DataW.weightsEach, List.append_nil]
    exact hk))
  exact ⟨c, m, rfl, hm⟩
set_option maxRecDepth 100000 in
/-- A list of numbers that came in. -/
theorem list_of {W : World} {base : Nat} {v : Value} {d : DataW H} {p : List MemPlace} (hv : Value.okWide Tryd.prog W .any base 25 v) (h : DataW.Trod enc Tryd.prog W 0 (fun _ => true) true 25 v d p)
    (hw : ∀ n ∈ d.weights Tryd.prog 25, n ≤ reachBytes) : ∃ l, Ints W v l := by
  obtain ⟨a, len, cap, rfl⟩ := okWide_slice Tryd.underlying25 hv
  obtain ⟨fuel, hf⟩ := h
  exact ints_of_trod hf hw
set_option maxRecDepth 100000 in
/-- A nil list has no room. -/
theorem list_nil_of {W : World} {base : Nat} {v : Value} {d : DataW H} {p : List MemPlace} (hv : Value.okWide Tryd.prog W .any base 25 v) (h : DataW.Trod enc Tryd.prog W 0 (fun _ => true) true 25 v d p) : ∀ A n c, v = .slice A n c → A = none → c = 0 := by
  obtain ⟨a, len, cap, rfl⟩ := okWide_slice Tryd.underlying25 hv
  obtain ⟨fuel, hf⟩ := h
  rintro A n c hA rfl
  simp only [Value.slice.injEq] at hA
  obtain ⟨rfl, rfl, rfl⟩ := hA
  have hf' : DataW.trod enc Tryd.prog W 0 (fun _ => true) true fuel 25 [.slice none len cap] = some (d, p) := hf
  rcases Go.ChangeShapes.open_ints Tryd.underlying25 Tryd.underlying3 cells_int hf' with ⟨hc, _⟩ | ⟨a, _, _, _, hc, _⟩
  · simp only [List.cons.injEq, Value.slice.injEq] at hc
    exact hc.1.2.2
  · simp at hc
theorem weight_of {P : Program} {ts : List TypeId} {ds : List (DataW H)} (h : (DataW.weightsEach P ts ds).all (· ≤ reachBytes) = true) {j : Nat} {t : TypeId} {d : DataW H} (ht : ts[j]? = some t) (hd : ds[j]? = some d) : ∀ n ∈ d.weights P t, n ≤ reachBytes := by
  intro n hn
  have := List.all_eq_true.1 h _ (DataW.weights_mem_each ht hd n hn)
  simpa using this
end
end Go.Proofs.YtiiiinoappjhdaaDoor
namespace Go.Proofs.YtiiiinoappjhdaaDoor
open Go.ChangeShapes Go.WideShapes Go.ChangeAt Go.RowKit
noncomputable def laidWorld2 (os : Os) : World :=
  let w0 := World.holding Tryd.prog os ⟨#[], #[], []⟩
  let put (h : Array Obj) (g : Nat) (cs : Array Value) : Array Obj := h.modify g fun
    | .cells _ t frozen => .cells cs t frozen
    | o => o
  { w0 with heap := put w0.heap 0 (Lib.deBruijn64tab.map fun z : Nat => Value.int .u8 z).toArray }
set_option maxRecDepth 1000000 in
theorem laid_met2 (os : Os) (args : Array Value) : laidMet Tryd.prog Rows.shortFindsRow.laid ((laidWorld2 os).forCall (fun _ _ => 0) ⟨#[], args, []⟩).memory :=
  (LaidIn.of_run (l := Rows.shortFindsRow.laid) [0] 8 (by kernel_rfl) (by kernel_rfl) (by kernel_rfl) (by kernel_rfl)).met
/-- The table of the least bit, out of the list. -/
theorem tab_of2 {W : World} (h : laidMetH Tryd.prog Rows.shortFindsRow.laid W) : Tab W := by
  have h1 : laidMet Tryd.prog Rows.shortFindsRow.laid W := h
  have h2 : laidMet Tryd.prog (("math/bits.deBruijn64tab", Lib.tabData .u8 (Lib.deBruijn64tab.map fun x : Nat => (x : Int))) :: Rows.shortFindsRow.laid.drop 1) W := h1
  have h3 := Lib.tabIs_of_head gTab gTabType Tryd.underlying101 Tryd.underlying5 cellsU8 cellsTab h2
  intro j hj
  have h4 := h3.cell gTab j (by rw [List.length_map]; exact hj)
  rw [h4]
  have e : j < Lib.deBruijn64tab.length := hj
  simp [List.getD_eq_getElem?_getD, List.getElem?_eq_getElem e]
end Go.Proofs.YtiiiinoappjhdaaDoor
namespace Go.Proofs.YtiiiinoappjhdaaDoor
open Go.RowKit Go.Deep Go.ChangeShapes Go.WideShapes
/-- A slice of slices of ints, where a nil row has no room. -/
def RowsN (w : World) (v : Value) (m : List (List Int)) : Prop :=
  ∃ A cap, v = .slice A m.length cap ∧ m.length ≤ big ∧ ∀ i, i < m.length → ∃ b off Ar c, A = some ⟨b, off, none⟩ ∧ w.cell? ⟨b, off + i, none⟩ = some (.slice Ar (m.getD i []).length c) ∧ Ints w (.slice Ar (m.getD i []).length c) (m.getD i []) ∧ (Ar = none → c = 0)
theorem RowsN.rows {w : World} {v : Value} {m : List (List Int)} (h : RowsN w v m) : Rows w v m := by
  obtain ⟨A, cap, hv, hl, hc⟩ := h
  refine ⟨A, cap, hv, hl, fun i hi => ?_⟩
  obtain ⟨b, off, Ar, c, hA, hcell, hr, _⟩ := hc i hi
  exact ⟨b, off, _, hA, hcell, hr⟩
theorem RowsN.below {w w' : World} {v : Value} {m : List (List Int)} (h : RowsN w v m) (hb : Below w.heap.size w w') : RowsN w' v m := by
  obtain ⟨A, cap, hv, hl, hc⟩ := h
  refine ⟨A, cap, hv, hl, fun i hi => ?_⟩
  obtain ⟨b, off, Ar, c, hA, hcell, hr, hn⟩ := hc i hi
  exact ⟨b, off, Ar, c, hA, (hb.cell (p := ⟨b, off + i, none⟩) (World.block_lt_of_cell? _ _ hcell)).trans hcell, hr.below hb, hn⟩
section
variable {H : Type} {enc : TypeId × Value → H} {W : World} {base : Nat}
end
end Go.Proofs.YtiiiinoappjhdaaDoor
namespace Go.Proofs.YtiiiinoappjhdaaDoor
open Go.RowKit Go.Shelf
/-- Whether the one list of numbers comes before the other of as many. -/
def befB : List Int → List Int → Bool
  | x :: a, y :: b => if x = y then befB a b else decide (x < y)
  | _, _ => false
theorem befB_eq : ∀ l : List Int, befB l l = false
  | [] => rfl
  | x :: a => by rw [befB, if_pos rfl]; exact befB_eq a
theorem befB_at : ∀ (l m : List Int) (k : Nat), k < l.length → l.length = m.length → l.take k = m.take k → l.getD k 0 ≠ m.getD k 0 → befB l m = decide (l.getD k 0 < m.getD k 0)
  | [], _, k, h, _, _, _ => by simp at h
  | _ :: _, [], _, _, h, _, _ => by simp at h
  | x :: a, y :: b, 0, _, _, _, h4 => by
    simp only [List.getD_cons_zero] at h4 ⊢
    rw [befB, if_neg h4]
  | x :: a, y :: b, k + 1, h1, h2, h3, h4 => by
    simp only [List.take_succ_cons, List.cons.injEq] at h3
    simp only [List.getD_cons_succ] at h4 ⊢
    rw [befB, if_pos h3.1]
    exact befB_at a b k (by simpa using h1) (by simpa using h2) h3.2 h4
theorem befB_lex : ∀ (l m : List Int), befB l m = true → lexLt l m
  | [], _, h => by simp [befB] at h
  | _ :: _, [], h => by simp [befB] at h
  | x :: a, y :: b, h => by
    by_cases e : x = y
    · rw [befB, if_pos e] at h
      exact .inr ⟨e, befB_lex a b h⟩
    · rw [befB, if_neg e] at h
      exact .inl (of_decide_eq_true h)
/-- A list's beginning. -/
theorem Ints.take {w : World} {A : Option Addr} {c : Nat} {l : List Int} (h : Ints w (.slice A l.length c) l) {k : Nat} (hk : k ≤ l.length) (d : Nat) : Ints w (.slice A k d) (l.take k) := by
  obtain ⟨A', c', hv, hl, hc⟩ := h
  simp only [Value.slice.injEq] at hv
  obtain ⟨rfl, -, rfl⟩ := hv
  have hlk : (l.take k).length = k := by simp; omega
  refine ⟨A, d, by rw [hlk], by omega, fun i hi => ?_⟩
  obtain ⟨b, off, hA, hcell⟩ := hc i (by omega)
  refine ⟨b, off, hA, ?_⟩
  rw [hcell]
  congr 2
  simp only [List.getD_eq_getElem?_getD, List.getElem?_take]
  rw [if_pos (by omega)]
end Go.Proofs.YtiiiinoappjhdaaDoor
namespace Go.Proofs.YtiiiinoappjhdaaDoor
open Go.RowKit Go.Shelf
/-- What Shortest returns beside what Rank does. -/
def ShortAs (r : Nat) (L : List Int) (c : Int) (l : List Int) : Prop := (r = 1 ∧ c = 0 ∧ l = L) ∨ (r ≠ 1 ∧ c = 4 ∧ l = [])
theorem Shortest_as (v : Value) (m : List (List Int)) (i0 : Nat) (c : Int) (l : List Int) (w : World) (hT : Tab w) (h : Rows w v m) (hv : validM m = true) (h12 : m.length ≤ 12) (hi0 : i0 < (imgF m).length)
    (hmin : ∀ j, j < (imgF m).length → szB (imgF m) i0 ≤ szB (imgF m) j) (hfirst : ∀ j, j < i0 → szB (imgF m) i0 < szB (imgF m) j) (hc : Hid (ShortAs (szB (imgF m) i0) (wordB (imgF m) i0) c l)) :
    Calls Tryd.prog 11 #[.agg #[v]] w fun e w' => ∃ A k, e = .returned (.tuple #[.slice A l.length k, .int .i64 c]) ∧ Ints w' (.slice A l.length k) l ∧ Below w.heap.size w w' := by
  refine (Shortest_ok v m w hT h hv h12).mono ?_
  rintro e w1 ⟨⟨i, r, hi, hs, hn, rfl, ho⟩ | ⟨hn, rfl⟩, hb⟩
  · have h1 := hmin i hi
    have h2 := szB_pos hv h12 hi0
    have hii : i = i0 := by
      rcases Nat.lt_trichotomy i i0 with e | e | e
      · have := hfirst i e; omega
      · exact e
      · have := hn i0 e; omega
    subst hii
    rcases hc.out with ⟨_, rfl, rfl⟩ | ⟨h3, _, _⟩
    · have hl := imgF_len hv h12 hi
      obtain ⟨A, k, rfl⟩ := ownsRow_slice ho
      exact ⟨A, k, rfl, Ints.of_own ho (by unfold big; omega), hb⟩
    · omega
  · rcases hc.out with ⟨h3, _, _⟩ | ⟨_, rfl, rfl⟩
    · exact absurd h3 (hn i0 hi0)
    · exact ⟨none, 0, rfl, Ints.nil _, hb⟩
theorem Rank_as (v : Value) (m : List (List Int)) (r : Nat) (L : List Int) (w : World) (hT : Tab w) (h : Rows w v m) (hv : validM m = true) (h12 : m.length ≤ 12) (hr : Hid ((rkS (imgF m) m.length (imgF m).length).1 = r)) (hL : Hid ((rkS (imgF m) m.length (imgF m).length).2 = L)) (hl : L.length ≤ 4096) :
    Calls Tryd.prog 17 #[.agg #[v]] w fun e w' => ∃ A k, e = .returned (.tuple #[.int .i64 (r : Nat), .slice A L.length k, .int .i64 0]) ∧ Ints w' (.slice A L.length k) L ∧ Below w.heap.size w w' := by
  refine (Rank_ok v m w hT h hv h12).mono ?_
  rintro e w1 ⟨rr, rfl, ho, hb⟩
  rw [hr.out, hL.out] at *
  obtain ⟨A, k, rfl⟩ := ownsRow_slice ho
  exact ⟨A, k, rfl, Ints.of_own ho (by unfold big; omega), hb⟩
/-- Any word leads to no fewer states than the rank; if to as many, then it is no shorter than the least word, nor before it. -/
theorem least_ok {m : List (List Int)} (hv : validM m = true) (h12 : m.length ≤ 12) {i0 : Nat} (hi0 : i0 < (imgF m).length) (hmin : ∀ j, j < (imgF m).length → szB (imgF m) i0 ≤ szB (imgF m) j) (hfirst : ∀ j, j < i0 → szB (imgF m) i0 < szB (imgF m) j)
    {ul : List Int} (hu : ul.all (inB 0 ((letters m : Int) - 1)) = true) : szB (imgF m) i0 ≤ (imageM m (allM m.length) ul).length ∧
      (szB (imgF m) i0 < (imageM m (allM m.length) ul).length ∨ (wordB (imgF m) i0).length < ul.length ∨ (ul.length = (wordB (imgF m) i0).length ∧ befB ul (wordB (imgF m) i0) = false)) := by
  obtain ⟨j, hj, hp, hle⟩ := imgF_has hv hu
  have hs := szB_image hv h12 hj hp
  rw [hs]
  have h1 := hmin j hj
  refine ⟨h1, ?_⟩
  by_cases h2 : szB (imgF m) i0 < szB (imgF m) j
  · exact .inl h2
  · right
    have hij : i0 ≤ j := Nat.le_of_not_lt fun hh => by have := hfirst j hh; omega
    have hSL : SLe (wordB (imgF m) i0) ul := by
      rcases Nat.lt_or_ge i0 j with e | e
      · exact .inr ((imgF_rise hv e hj).le hle)
      · obtain rfl : i0 = j := by omega
        exact hle
    rcases hSL with e | e | ⟨e, hlex⟩
    · right
      rw [e]; exact ⟨rfl, befB_eq _⟩
    · exact .inl e
    · right
      refine ⟨e.symm, ?_⟩
      cases hb : befB ul (wordB (imgF m) i0) with
      | false => rfl
      | true => exact absurd (lexLt.trans hlex (befB_lex _ _ hb)) (lexLt_irrefl _)
end Go.Proofs.YtiiiinoappjhdaaDoor
namespace Go.Proofs.YtiiiinoappjhdaaDoor
open Go.RowKit Go.Shelf
theorem pack4 : ((List.range 4).all fun a => (List.range 4).all fun b => (List.range 4).all fun c => (List.range 4).all fun d => Nat.blt (a + 4 * b + 16 * c + 64 * d) 256 && (Nat.beq (two4 (a + 4 * b + 16 * c + 64 * d) 0) a && (Nat.beq (two4 (a + 4 * b + 16 * c + 64 * d) 1) b && (Nat.beq (two4 (a + 4 * b + 16 * c + 64 * d) 2) c && Nat.beq (two4 (a + 4 * b + 16 * c + 64 * d) 3) d)))) = true := by decide +kernel
theorem pack4_spec (f : Nat → Nat) (hf : ∀ s, s < 4 → f s < 4) : ∃ A, A < 256 ∧ ∀ s, s < 4 → two4 A s = f s := by
  have h := List.all_eq_true.1 (List.all_eq_true.1 (List.all_eq_true.1 (List.all_eq_true.1 pack4 _ (List.mem_range.2 (hf 0 (by decide)))) _ (List.mem_range.2 (hf 1 (by decide)))) _ (List.mem_range.2 (hf 2 (by decide)))) _ (List.mem_range.2 (hf 3 (by decide)))
  simp only [Bool.and_eq_true] at h
  obtain ⟨h1, h2, h3, h4, h5⟩ := h
  refine ⟨f 0 + 4 * f 1 + 16 * f 2 + 64 * f 3, by have := h1; simp only [Nat.blt, Nat.ble_eq] at this; omega, fun s hs => ?_⟩
  rcases (show s = 0 ∨ s = 1 ∨ s = 2 ∨ s = 3 by omega) with rfl | rfl | rfl | rfl
  · exact Nat.eq_of_beq_eq_true h2
  · exact Nat.eq_of_beq_eq_true h3
  · exact Nat.eq_of_beq_eq_true h4
  · exact Nat.eq_of_beq_eq_true h5
theorem run_four {m : List (List Int)} {A B : Nat} (hA : ∀ s, s < 4 → two4 A s = nx m s 0) (hB : ∀ s, s < 4 → two4 B s = nx m s 1) : ∀ (u : List Int) (s : Nat), bin u → s < 4 → runM m s u = rn4 A B s u
  | [], _, _, _ => rfl
  | x :: u, s, hu, hs => by
    show runM m (nx m s x) u = rn4 A B (st4 A B s x) u
    have hx : nx m s x = st4 A B s x := by
      unfold st4
      rcases hu x (by simp) with rfl | rfl
      · rw [if_pos rfl, hA s hs]
      · rw [if_neg (by decide), hB s hs]
    rw [hx]
    refine run_four hA hB u _ (fun y hy => hu y (by simp [hy])) ?_
    unfold st4; split <;> exact two4_lt _ _
theorem bin_all {m : List (List Int)} (h2 : letters m = 2) (u : List Int) : u.all (inB 0 ((letters m : Int) - 1)) = true ↔ bin u := by
  rw [List.all_eq_true, h2]
  constructor
  · intro h x hx
    have := inB_iff.1 (h x hx)
    omega
  · intro h x hx
    rcases h x hx with rfl | rfl <;> decide
/-- All states are led to one: the set to which they are led has one element. -/
theorem elems_one_of {m : List (List Int)} (hv : validM m = true) {u : List Int} (hu : isWordM m u = true) {t : Nat} (ht : ∀ s, s < m.length → runM m s u = t) : (elems (imgWord m (2 ^ m.length - 1) u)).length = 1 := by
  obtain ⟨p1, p2, -⟩ := valid_parts hv
  rw [← image_len (by omega)]
  have key : ∀ x, x ∈ elems (imgWord m (ofList (allM m.length)) u) ↔ x = t := fun x => by
    rw [← hasB_intsOf]
    show hasB (imageM m (allM m.length) u) x = true ↔ _
    rw [hasB_all hv hu]
    constructor
    · rintro ⟨s, hs, rfl⟩; exact ht s hs
    · rintro rfl; exact ⟨0, by omega, ht 0 (by omega)⟩
  have hn := elems_nodup (imgWord m (ofList (allM m.length)) u)
  have e : (imageM m (allM m.length) u).length = (elems (imgWord m (ofList (allM m.length)) u)).length := by unfold imageM intsOf; simp
  rw [e]
  generalize elems (imgWord m (ofList (allM m.length)) u) = L at *
  cases L with
  | nil => have := (key t).2 rfl; simp at this
  | cons a L =>
    cases L with
    | nil => rfl
    | cons b L =>
      have h1 := (key a).1 (by simp)
      have h2 := (key b).1 (by simp)
      rw [List.nodup_cons] at hn
      exact absurd (by rw [h1, h2]; simp : a ∈ b :: L) hn.1
/-- At most four states, two letters: a word of at most (n - 1)^2 letters. -/
theorem small_word {m : List (List Int)} (hv : validM m = true) (hn : m.length ≤ 4) (h2 : letters m = 2) (hall : allMerge m) :
    ∃ u : List Int, u.all (inB 0 ((letters m : Int) - 1)) = true ∧ u.length ≤ (m.length - 1) * (m.length - 1) ∧ (elems (imgWord m (2 ^ m.length - 1) u)).length = 1 := by
  obtain ⟨p1, p2, -⟩ := valid_parts hv
  by_cases h4 : m.length = 4
  · obtain ⟨A, hA, hA2⟩ := pack4_spec (fun s => nx m s 0) (fun s hs => by
      have := (nx_ok hv (s := s) (by omega) (x := 0) (by omega) (by omega)).1
      omega)
    obtain ⟨B, hB, hB2⟩ := pack4_spec (fun s => nx m s 1) (fun s hs => by
      have := (nx_ok hv (s := s) (by omega) (x := 1) (by omega) (by omega)).1
      omega)
    rcases good4_all hA hB with ⟨u, u1, u2, t, ht, u3⟩ | ⟨p, q, hpq, hq, hne⟩
    · have hu := (bin_all h2 u).2 u1
      refine ⟨u, hu, by rw [h4]; exact u2, ?_⟩
      refine elems_one_of hv (t := t) (by simp only [isWordM, Bool.and_eq_true, decide_eq_true_eq]; exact ⟨by omega, hu⟩) fun s hs => ?_
      rw [run_four hA2 hB2 u s u1 (by omega)]
      exact u3 s (by omega)
    · obtain ⟨k, u, hu, -, he⟩ := hall p q hpq (by omega)
      have u1 := (bin_all h2 u).1 hu
      rw [run_four hA2 hB2 u p u1 (by omega), run_four hA2 hB2 u q u1 hq] at he
      exact absurd he (hne u)
  · obtain ⟨r1, r2, r3⟩ := resetW_ok hv hall
    refine ⟨_, r1, ?_, r2⟩
    rcases (show m.length = 1 ∨ m.length = 2 ∨ m.length = 3 by omega) with e | e | e <;> rw [e] at r3 ⊢ <;> omega
/-- A word whose set has one element: all pairs are merged. -/
theorem allMerge_of {m : List (List Int)} (hv : validM m = true) {u : List Int} (hu : isWordM m u = true) (h : (imageM m (allM m.length) u).length = 1) : allMerge m := by
  obtain ⟨x, hx⟩ := List.length_eq_one_iff.1 h
  obtain ⟨t, -, ht⟩ := image_one hv hu hx
  intro p q hpq hq
  exact ⟨u.length, u, isWordM_all hu, rfl, by rw [ht p (by omega), ht q hq]⟩
/-- Shortest of an automaton whose states are all merged, and of another one. -/
def SmallIs (m : List (List Int)) (c : Int) (l : List Int) : Prop := (allMerge m ∧ c = 0 ∧ isWordM m l = true ∧ l.length ≤ (resetW m).length ∧ (∃ t, t < m.length ∧ ∀ s, s < m.length → runM m s l = t) ∧ (letters m = 2 → m.length ≤ 4 → l.length ≤ (m.length - 1) * (m.length - 1))) ∨ (¬ allMerge m ∧ c = 4 ∧ l = [])
theorem Shortest_small (v : Value) (m : List (List Int)) (w : World) (hT : Tab w) (h : Rows w v m) (hv : validM m = true) (h12 : m.length ≤ 12) :
    ∃ c l, SmallIs m c l ∧ Calls Tryd.prog 11 #[.agg #[v]] w fun e w' => ∃ A k, e = .returned (.tuple #[.slice A l.length k, .int .i64 c]) ∧ Ints w' (.slice A l.length k) l ∧ Below w.heap.size w w' := by
  obtain ⟨p1, p2, -⟩ := valid_parts hv
  obtain ⟨i0, hi0, -, -, hmin, hfirst⟩ := rank_spec hv
  by_cases h1 : szB (imgF m) i0 = 1
  · have hw := imgF_isWord hv h12 hi0
    have hs := szB_image hv h12 hi0 (imgF_word hv hi0).2
    have hall := allMerge_of hv hw (hs.trans h1)
    refine ⟨0, wordB (imgF m) i0, .inl ⟨hall, rfl, hw, ?_, ?_, fun h2 hn => ?_⟩, Shortest_as v m i0 0 _ w hT h hv h12 hi0 hmin hfirst (hid (.inl ⟨h1, rfl, rfl⟩))⟩
    · obtain ⟨r1, r2, -⟩ := resetW_ok hv hall
      obtain ⟨k1, k2⟩ := least_ok hv h12 hi0 hmin hfirst r1
      rw [image_len (by omega), r2] at k2
      omega
    · obtain ⟨x, hx⟩ := List.length_eq_one_iff.1 (hs.trans h1)
      obtain ⟨t, -, ht⟩ := image_one hv hw hx
      refine ⟨t, ?_, ht⟩
      rw [← ht 0 p1]
      exact runM_lt hv _ 0 p1 (isWordM_all hw)
    · obtain ⟨u, u1, u2, u3⟩ := small_word hv hn h2 hall
      obtain ⟨k1, k2⟩ := least_ok hv h12 hi0 hmin hfirst u1
      rw [image_len (by omega), u3] at k2
      omega
  · refine ⟨4, [], .inr ⟨fun hall => ?_, rfl, rfl⟩, Shortest_as v m i0 4 _ w hT h hv h12 hi0 hmin hfirst (hid (.inr ⟨h1, rfl, rfl⟩))⟩
    obtain ⟨r1, r2, -⟩ := resetW_ok hv hall
    obtain ⟨k1, -⟩ := least_ok hv h12 hi0 hmin hfirst r1
    rw [image_len (by omega), r2] at k1
    have := szB_pos hv h12 hi0
    omega
end Go.Proofs.YtiiiinoappjhdaaDoor
namespace Go.Proofs.YtiiiinoappjhdaaDoor
open Go.RowKit Go.Shelf
theorem valid_two {m : List (List Int)} (h1 : 1 ≤ m.length) (h60 : m.length ≤ 60) (hr : ∀ r ∈ m, r.length = 2 ∧ ∀ x ∈ r, 0 ≤ x ∧ x < m.length) : validM m = true ∧ letters m = 2 := by
  have hl : letters m = 2 := by
    cases m with
    | nil => simp at h1
    | cons r m => exact (hr r (by simp)).1
  refine ⟨?_, hl⟩
  have e1 : inB 1 60 m.length = true := inB_true (by omega)
  have e2 : inB 1 6 (letters m) = true := inB_true (by omega)
  have e3 : m.all (rowOk m) = true := by
    rw [List.all_eq_true]
    intro r hm
    obtain ⟨a1, a2⟩ := hr r hm
    simp only [rowOk, Bool.and_eq_true, decide_eq_true_eq]
    refine ⟨by omega, ?_⟩
    rw [List.all_eq_true]
    intro x hx
    have := a2 x hx
    exact inB_true (by omega)
  simp [validM, e1, e2, e3]
/-- The rows that are there have two states each. -/
def TwoRows (n : Nat) (M : List (List Int)) : Prop := ∀ r ∈ M, r.length = 2 ∧ ∀ x ∈ r, 0 ≤ x ∧ x < (n : Int)
theorem TwoRows.push {n : Nat} {M : List (List Int)} (h : TwoRows n M) {r : List Int} (h2 : r.length = 2) (hr : ∀ x ∈ r, 0 ≤ x ∧ x < (n : Int)) : TwoRows n (M ++ [r]) := fun r' hr' => by
  rcases List.mem_append.1 hr' with e | e
  · exact h r' e
  · rw [List.mem_singleton.1 e]; exact ⟨h2, hr⟩
set_option maxRecDepth 100000 in
set_option maxHeartbeats 8000000 in
theorem shortSmall_any (z c0 : Int) (w : World) (hT : Tab w) (hz : 0 ≤ z ∧ z < 256) (hc0 : 0 ≤ c0 ∧ c0 < 4294967296) :
    Calls Tryd.prog 7 #[.int .u8 z, .int .u32 c0] w fun e w' => e = .returned (.bool true) ∧ Below w.heap.size w w' := by
  obtain ⟨j0, hj, hy0, hy1, hy2⟩ := info_parts infoInt
  have hcz : IntKind.i64.wrap z = z := IntWalk.i64_in _ (by omega)
  obtain ⟨n, hn⟩ : ∃ n : Nat, 1 + z % 4 = (n : Int) := ⟨(1 + z % 4).toNat, by omega⟩
  have hn1 : 1 ≤ n := by omega
  have hn4 : n ≤ 4 := by omega
  have hX := bal (Below.refl _ w) (.cells #[.slice none 0 0] 24)
  have q1 := Boxed.new w 24 (.slice none 0 0)
  have hXs : (w.alloc (.cells #[.slice none 0 0] 24)).heap.size = w.heap.size + 1 := by simp
  go_enter Tryd.func7, Tryd.ntmps7
  go_wp2_with fail
  try rw [hn]
  generalize w.alloc (.cells #[.slice none 0 0] 24) = X at *
  clear hn hcz
  go_loopw [1, 7] (fun cv sv wr => ∃ (s : Nat) (c : Int) (u : Value) (M : List (List Int)), s ≤ n ∧ sv = .int .i64 s ∧ cv = .int .u32 c ∧ 0 ≤ c ∧ c < 4294967296 ∧ M.length = s ∧ TwoRows n M ∧ MRows wr (w.heap.size + 1) u M ∧ Below w.heap.size w wr ∧ Boxed wr w.heap.size 24 u ∧ w.heap.size + 1 ≤ wr.heap.size) (fun _ sv _ => n - (intOf sv).toNat)
  case atStart => exact ⟨0, c0, .slice none 0 0, [], Nat.zero_le _, rfl, rfl, hc0.1, hc0.2, rfl, fun r hr => by simp at hr, MRows.nil _ _, hX, q1, by omega⟩
  case round =>
    clear hX q1 hXs
    obtain ⟨s, c, u, M, hs, rfl, rfl, hc1, hc2, hM, h2, hMR, hB, hb, hsz⟩ := hrel
    have H2 := hid h2
    have HMR := hid hMR
    subst hM
    by_cases hlt : M.length < n
    · have hss : (M.length : Int) < n := by omega
      have hne : (n : Int) ≠ 0 := by omega
      have hcn : IntKind.u32.wrap (n : Int) = n := IntWalk.u32_in _ (by omega)
      obtain ⟨wo, rfl⟩ : ∃ wo : World, wo = wr := ⟨_, rfl⟩
      clear hMR h2
      go_wp2_with fail
      go_loopw [1, 8, 9] (fun cv rv xv wr => ∃ (x : Nat) (c : Int) (R : List Int), x ≤ 2 ∧ xv = .int .i64 x ∧ cv = .int .u32 c ∧ 0 ≤ c ∧ c < 4294967296 ∧ R.length = x ∧ (∀ y ∈ R, 0 ≤ y ∧ y < (n : Int)) ∧ wr.ownsRow wo.heap.size 3 1 rv x (R.map fun y => .int .i64 y) ∧ Below wo.heap.size wo wr) (fun _ _ xv _ => 2 - (intOf xv).toNat)
      case atStart => exact ⟨0, c, [], by omega, rfl, rfl, hc1, hc2, rfl, fun y hy => by simp at hy, World.ownsRow_nil _ _ _ _, Below.refl _ _⟩
      case round =>
        clear hc1 hc2
        obtain ⟨x, c, R, hx, rfl, rfl, hc1, hc2, hRl, hRn, hO, hBi⟩ := hrel
        have HO := hid hO
        have HRn := hid hRn
        have hszi := hBi.size
        clear hO hRn
        by_cases hx2 : x < 2
        · have hxs : (x : Int) < 2 := by omega
          have hwc : IntKind.i64.wrap c = c := IntWalk.i64_in _ (by omega)
          have hq1 : 0 ≤ c % n := Int.emod_nonneg c hne
          have hq2 : c % n < n := Int.emod_lt_of_pos c (show (0 : Int) < n by omega)
          have hd1 : 0 ≤ c / n := Int.ediv_nonneg hc1 (show (0 : Int) ≤ n by omega)
          have hd2 : c / n < 4294967296 := by
            have := Int.ediv_le_self (n : Int) hc1
            omega
          have hwd : IntKind.u32.wrap ((c / (n : Int))) = (c / (n : Int)) := IntWalk.u32_in _ (by omega)
          have hwm : IntKind.i64.wrap ((c % (n : Int))) = (c % (n : Int)) := IntWalk.i64_in _ (by omega)
          have hok := hid (fun y (hy : y ∈ R ++ [(c % (n : Int))]) => show 0 ≤ y ∧ y < (n : Int) from by
            rcases List.mem_append.1 hy with e | e
            · exact HRn.out y e
            · rw [List.mem_singleton.1 e]; exact ⟨hq1, hq2⟩)
          go_wp2_with (at_builtin; refine wpList_append_own_at _ rfl _ _ 25 rfl wo.heap.size 3 j0 (.int .i64 0) 1 8 Tryd.underlying25 hj hy0 hy1 hy2 rfl (by decide) _ _ _ rfl (HO.out.alloc _) ⟨wr.heap.size, 0, none⟩ 1 1 [.int .i64 ((c % (n : Int)))] rfl rfl (cell_one_new _ _ _) (by simp [Value.oneCell']) (by unfold maxLen; omega) (by omega) (by simp; omega) ?_; intro v' w5 hown' hgrow' _ hat)
          have HB5 := hid ((bal hBi (.cells #[.int .i64 ((c % (n : Int)))] 3)).grown hgrow' (by simp; omega) (fun k hk => (HO.out.lt k hk).1))
          have HO5 := hid hown'
          clear hgrow' hown' hat
          go_roundw
          case rel => exact ⟨x + 1, (c / (n : Int)), R ++ [(c % (n : Int))], by omega, by go_num, rfl, hd1, hd2, by simp [hRl], hok.out, by rw [List.map_append]; exact HO5.out, HB5.out⟩
          case measure => simp [intOf]; omega
        · obtain rfl : x = 2 := by omega
          have hxs : ¬ ((2 : Nat) : Int) < 2 := by omega
          obtain ⟨rA, rc, rfl⟩ : ∃ A c, u8 = .slice A 2 c := ownsRow_slice HO.out
          have hrowb : IntsOff wr (w.heap.size + 1) u.ownBlock (.slice rA 2 rc) R := HMR.out.beside (Nat.le_refl _) hsz (by rw [hRl]; exact HO.out) (by unfold big; omega)
          have hM2 := HMR.out.below hBi
          have hb2 : Boxed wr w.heap.size 24 u := (hBi.block _ hb.lt).trans hb
          have m2 := hb2.cell
          have hBB := btr hB hBi
          obtain ⟨vA, vc, rfl, -⟩ := hM2.slice
          have hwb : w.heap.size < wr.heap.size := by omega
          have hb2a := hb2.alloc (.cells #[.slice rA 2 rc] 25)
          have HM2 := hid hM2
          have Hrowb := hid hrowb
          have Hb2 := hid hb2
          have HBB := hid hBB
          clear hM2 hrowb hBB
          go_wp2_with (at_builtin; refine wpList_append_mrow rfl _ _ rfl (w.heap.size + 1) (.slice vA M.length vc) (.slice rA 2 rc) M R _ wr rfl wr.heap.size rfl rfl HM2.out rfl Hrowb.out (by omega) (by omega) ?_; intro A5 k5 w5 hM5 hB5; have n3 : Boxed w5 w.heap.size 24 (.slice vA M.length vc) := (hB5.block _ (by omega)).trans Hb2.out; have n3c := n3.cell; have n3f := n3.frozen)
          have hM6 := hid (hM5.kept (W' := w5.setCell ⟨w.heap.size, 0, none⟩ (.slice A5 (M.length + 1) k5)) (fun b hb _ => Below.heap_setCell _ _ _ _ (by simp; omega)))
          have hB6 := hid ((HBB.out.trans (hB5.mono (by omega))).setCell (p := ⟨w.heap.size, 0, none⟩) (Nat.le_refl _) (.slice A5 (M.length + 1) k5))
          have hb6 := hid (n3.set (.slice A5 (M.length + 1) k5))
          have hsz5 := hB5.size
          clear hM5 hB5 n3 n3c n3f
          go_wp2
          go_roundw
          case rel => exact ⟨M.length + 1, c, _, M ++ [R], by omega, by go_num, rfl, hc1, hc2, by simp, H2.out.push hRl HRn.out, hM6.out, hB6.out, hb6.out, by simp [World.setCell]; omega⟩
          case measure => simp [intOf]; omega
    · obtain rfl : n = M.length := by omega
      have hss : ¬ ((M.length : Nat) : Int) < M.length := by omega
      obtain ⟨hv, hl2⟩ := valid_two hn1 (by omega) h2
      have hR := hMR.rows (by unfold big; omega)
      obtain ⟨vA, vc, rfl, -⟩ := hMR.slice
      have m2 := hb.cell
      obtain ⟨e1, l, hsm, hcall⟩ := Shortest_small _ M wr (hT.on hB) hR hv (by omega)
      have Hcall := hid hcall
      have hsub : IntKind.i64.wrap ((M.length : Int) - 1) = ((M.length - 1 : Nat) : Int) := by rw [IntWalk.i64_in _ (by omega)]; omega
      have hmm : (M.length - 1) * (M.length - 1) ≤ 9 := Nat.mul_le_mul (show M.length - 1 ≤ 3 by omega) (show M.length - 1 ≤ 3 by omega)
      have hc : ((M.length - 1 : Nat) : Int) * ((M.length - 1 : Nat) : Int) = (((M.length - 1) * (M.length - 1) : Nat) : Int) := by simp
      have hmul : IntKind.i64.wrap (((M.length - 1 : Nat) : Int) * ((M.length - 1 : Nat) : Int)) = (((M.length - 1) * (M.length - 1) : Nat) : Int) := by rw [hc, IntWalk.i64_in _ (by omega)]
      have hboxk := hid (fun (W : World) (hk : Below wr.heap.size wr W) => show W.cell? ⟨w.heap.size, 0, none⟩ = some (.slice vA M.length vc) from (hk.cell (p := ⟨w.heap.size, 0, none⟩) (World.block_lt_of_cell? _ _ m2)).trans m2)
      rcases hsm with ⟨hall, rfl, hlw, hlr, -, hlb⟩ | ⟨hno, rfl, rfl⟩
      · have hlb2 := hlb hl2 hn4
        have hrst := fun W hT h => Reset_ok (.slice vA M.length vc) M W hT h hv hall
        have hrl := (resetW_ok hv hall).2.2
        have hM64 : M.length * M.length * M.length ≤ 64 := Nat.mul_le_mul (Nat.mul_le_mul hn4 hn4) hn4
        have hrl2 : (resetW M).length ≤ 64 := by omega
        have Hrst := hid hrst
        clear hrst hrl hlb hM64
        generalize resetW M = RW at *
        generalize (M.length - 1) * (M.length - 1) = K at *
        clear hc
        have d1 : decide ((l.length : Int) ≤ (K : Int)) = true := by simp; omega
        have d2 : decide ((l.length : Int) ≤ (RW.length : Int)) = true := by simp; omega
        clear hMR h2 H2 HMR hall hlw
        go_wp2_with fail
        refine Hcall.out.mono ?_
        rintro e w4 ⟨A4, k4, rfl, i4, h4⟩
        have b4 := hboxk.out _ h4
        go_wp2_with fail
        refine (Hrst.out _ ((hT.on hB).on h4) (hR.below h4)).mono ?_
        rintro e w5 ⟨r, rfl, ho, h5⟩
        obtain ⟨A5, k5, rfl⟩ := ownsRow_slice ho
        have B5 := btr h4 h5
        clear ho
        go_wp2_with fail
        refine (awake4_any _ ((hT.on hB).on B5)).mono ?_
        rintro e w6 ⟨rfl, h6⟩
        go_wp2
        go_ret
        exact ⟨rfl, btr hB (btr B5 h6)⟩
      · have hrst := fun W h => Reset_none (.slice vA M.length vc) M W h hv hno
        have Hrst := hid hrst
        clear hrst hMR h2 H2 HMR hno
        go_wp2_with fail
        refine Hcall.out.mono ?_
        rintro e w4 ⟨A4, k4, rfl, i4, h4⟩
        have b4 := hboxk.out _ h4
        go_wp2_with fail
        refine (Hrst.out _ (hR.below h4)).mono ?_
        rintro e w5 ⟨rfl, h5⟩
        have B5 := btr h4 h5
        go_wp2_with fail
        refine (awake4_any _ ((hT.on hB).on B5)).mono ?_
        rintro e w6 ⟨rfl, h6⟩
        go_wp2
        go_ret
        exact ⟨rfl, btr hB (btr B5 h6)⟩
end Go.Proofs.YtiiiinoappjhdaaDoor
namespace Go.Proofs.YtiiiinoappjhdaaDoor
open Go.RowKit Go.Shelf
set_option maxRecDepth 100000 in
set_option maxHeartbeats 1000000 in
theorem tSameInts_any (v u : Value) (l m : List Int) (w : World) (h : Ints w v l) (hu : Ints w u m) :
    Calls Tryd.prog 54 #[v, u] w fun e w' => e = .returned (.bool (decide (l = m))) ∧ Below w.heap.size w w' := by
  obtain ⟨A, cap, rfl, hl, hc⟩ := h
  obtain ⟨Au, capu, rfl, hlu, hcu⟩ := hu
  unfold big at hl hlu
  by_cases hlen : l.length = m.length
  · have hne : ((l.length : Int) != (m.length : Int)) = false := by simp; omega
    have Hlen := hid hlen
    clear hlen
    go_enter Tryd.func54, Tryd.ntmps54
    go_wp2
    go_loopw [5] (fun i wr => ∃ k : Nat, k ≤ l.length ∧ i = .int .i64 k ∧ l.take k = m.take k ∧ Below w.heap.size w wr) (fun i _ => l.length - (intOf i).toNat)
    case atStart => exact ⟨0, Nat.zero_le _, rfl, rfl, Below.refl _ _⟩
    case round =>
      obtain ⟨k, hk, rfl, htk, hB⟩ := hrel
      have Htk := hid htk
      clear htk
      by_cases hlt : k < l.length
      · have hle := Hlen.out
        obtain ⟨b, off, hA, hcell⟩ := hc k hlt
        obtain ⟨b', off', hA', hcell'⟩ := hcu k (by omega)
        subst hA
        subst hA'
        have c1 := (hB.cell (p := ⟨b, off + k, none⟩) (World.block_lt_of_cell? _ _ hcell)).trans hcell
        have c2 := (hB.cell (p := ⟨b', off' + k, none⟩) (World.block_lt_of_cell? _ _ hcell')).trans hcell'
        have Hs := hid (fun hx => take_eq_succ hlt Hlen.out Htk.out hx)
        have Hf := hid (fun hx => ne_of_getD (l := l) (m := m) (k := k) hx)
        have i1 : (k : Int) < l.length := by omega
        have i2 : (k : Int) < m.length := by omega
        clear hc hcu hcell hcell' hle
        generalize l.getD k 0 = x at *
        generalize m.getD k 0 = y at *
        by_cases hxy : x = y
        · have hd : (x != y) = false := by simp [hxy]
          have Hxy := hid hxy
          clear hxy
          go_wp2_with fail
          go_quiet (fail)
          go_wp2
          go_roundw
          case rel => exact ⟨k + 1, by omega, by go_num, Hs.out Hxy.out, bdr hB _⟩
          case measure => simp [intOf]; omega
        · have hd : (x != y) = true := by simp [hxy]
          have Hxy := hid hxy
          clear hxy
          go_wp2_with fail
          go_quiet (fail)
          go_wp2
          go_ret
          exact ⟨ret_bool (Hf.out Hxy.out).symm, bdr hB _⟩
      · go_wp2
        go_ret
        have h1 := Htk.out
        have h2 := Hlen.out
        rw [List.take_of_length_le (by omega), List.take_of_length_le (by omega)] at h1
        exact ⟨ret_bool (by simp [h1]), hB⟩
  · have hne : ((l.length : Int) != (m.length : Int)) = true := by simp; omega
    have Hlen := hid hlen
    clear hlen
    go_enter Tryd.func54, Tryd.ntmps54
    go_wp2
    go_ret
    exact ⟨ret_bool (by
      symm
      rw [decide_eq_false_iff_not]
      intro h
      exact Hlen.out (by rw [h])), Below.refl _ _⟩
set_option maxRecDepth 100000 in
set_option maxHeartbeats 1000000 in
theorem tComes_same (v u : Value) (l m : List Int) (w : World) (h : Ints w v l) (hu : Ints w u m) (hlen : l.length = m.length) :
    Calls Tryd.prog 32 #[v, u] w fun e w' => e = .returned (.bool (befB l m)) ∧ Below w.heap.size w w' := by
  obtain ⟨A, cap, rfl, hl, hc⟩ := h
  obtain ⟨Au, capu, rfl, hlu, hcu⟩ := hu
  unfold big at hl hlu
  have Hlen := hid hlen
  have hd0 : ((l.length : Int) != (m.length : Int)) = false := by simp; omega
  clear hlen
  go_enter Tryd.func32, Tryd.ntmps32
  go_wp2
  go_loopw [5] (fun i wr => ∃ k : Nat, k ≤ l.length ∧ i = .int .i64 k ∧ l.take k = m.take k ∧ Below w.heap.size w wr) (fun i _ => l.length - (intOf i).toNat)
  case atStart => exact ⟨0, Nat.zero_le _, rfl, rfl, Below.refl _ _⟩
  case round =>
    obtain ⟨k, hk, rfl, htk, hB⟩ := hrel
    have Htk := hid htk
    clear htk
    by_cases hlt : k < l.length
    · have hle := Hlen.out
      obtain ⟨b, off, hA, hcell⟩ := hc k hlt
      obtain ⟨b', off', hA', hcell'⟩ := hcu k (by omega)
      subst hA
      subst hA'
      have c1 := (hB.cell (p := ⟨b, off + k, none⟩) (World.block_lt_of_cell? _ _ hcell)).trans hcell
      have c2 := (hB.cell (p := ⟨b', off' + k, none⟩) (World.block_lt_of_cell? _ _ hcell')).trans hcell'
      have Hs := hid (fun hx => take_eq_succ hlt Hlen.out Htk.out hx)
      have Hf := hid (fun hx => befB_at l m k hlt Hlen.out Htk.out hx)
      have i1 : (k : Int) < l.length := by omega
      have i2 : (k : Int) < m.length := by omega
      have d1 : decide ((k : Int) < (l.length : Int)) = true := by simp; omega
      have d2 : decide ((k : Int) < (m.length : Int)) = true := by simp; omega
      clear hc hcu hcell hcell' hle
      generalize l.getD k 0 = x at *
      generalize m.getD k 0 = y at *
      by_cases hxy : x = y
      · have hd : (x != y) = false := by simp [hxy]
        have Hxy := hid hxy
        clear hxy
        go_wp2_with fail
        go_quiet (fail)
        go_wp2
        go_roundw
        case rel => exact ⟨k + 1, by omega, by go_num, Hs.out Hxy.out, bdr hB _⟩
        case measure => simp [intOf]; omega
      · have hd : (x != y) = true := by simp [hxy]
        have Hxy := hid hxy
        clear hxy
        go_wp2_with fail
        go_quiet (fail)
        have hcell1 := c1
        go_wp2_with fail
        go_quiet (fail)
        go_wp2
        go_ret
        exact ⟨ret_bool (Hf.out Hxy.out).symm, bdr (bdr hB _) _⟩
    · have hlk : k = l.length := by omega
      have d1 : decide ((k : Int) < (l.length : Int)) = false := by simp; omega
      have he : l = m := by
        have h1 := Htk.out
        rw [hlk, List.take_length, Hlen.out, List.take_length] at h1
        exact h1
      go_wp2
      go_ret
      refine ⟨ret_bool ?_, hB⟩
      subst he
      rw [befB_eq]
      try simp
      try simp
/-- Whether the one list comes before the other. -/
def comesB (l m : List Int) : Bool := if l.length = m.length then befB l m else decide (l.length < m.length)
set_option maxRecDepth 100000 in
theorem tComes_any (v u : Value) (l m : List Int) (w : World) (h : Ints w v l) (hu : Ints w u m) :
    Calls Tryd.prog 32 #[v, u] w fun e w' => e = .returned (.bool (comesB l m)) ∧ Below w.heap.size w w' := by
  by_cases hlen : l.length = m.length
  · unfold comesB
    rw [if_pos hlen]
    exact tComes_same v u l m w h hu hlen
  · obtain ⟨A, cap, rfl, hl, -⟩ := h
    obtain ⟨Au, capu, rfl, hlu, -⟩ := hu
    unfold big at hl hlu
    have hd0 : ((l.length : Int) != (m.length : Int)) = true := by simp; omega
    have hr : decide (l.length < m.length) = comesB l m := by unfold comesB; rw [if_neg hlen]
    go_enter Tryd.func32, Tryd.ntmps32
    go_wp2
    go_ret
    first
      | exact ⟨rfl, Below.refl _ _⟩
      | exact ⟨ret_bool hr, Below.refl _ _⟩
set_option maxRecDepth 100000 in
set_option maxHeartbeats 1000000 in
theorem tShortens_any (w : World) (hT : Tab w) :
    Calls Tryd.prog 28 #[] w fun e w' => e = .returned (.bool true) ∧ Below w.heap.size w w' := by
  have hR := lit_rows w 1 0 2 1 0 0
  have hB := bal (bal (bal (bal (Below.refl _ w) (.cells #[.int .i64 1, .int .i64 0] 3)) (.cells #[.int .i64 2, .int .i64 1] 3)) (.cells #[.int .i64 0, .int .i64 0] 3)) (.cells #[.slice (some ⟨w.heap.size, 0, none⟩) 2 2, .slice (some ⟨w.heap.size + 1, 0, none⟩) 2 2, .slice (some ⟨w.heap.size + 1 + 1, 0, none⟩) 2 2] 25)
  rw [← c3_rows] at hR
  go_enter Tryd.func28, Tryd.ntmps28
  go_wp2_with fail
  refine (shortest_c3 _ _ (hT.on hB) hR).mono ?_
  rintro e w1 ⟨A, c, rfl, hI, h1⟩
  have hB1 := btr hB h1
  have hI2 := hI.alloc (.cells #[.int .i64 1, .int .i64 0, .int .i64 0, .int .i64 1] 3)
  have hI4 := Ints.four' w1 1 0 0 1 3 _ rfl
  have hB2 := bal hB1 (.cells #[.int .i64 1, .int .i64 0, .int .i64 0, .int .i64 1] 3)
  go_wp2_with fail
  refine (tSameInts_any _ _ [1, 0, 0, 1] [1, 0, 0, 1] _ hI2 hI4).mono ?_
  rintro e w2 ⟨rfl, h2⟩
  go_wp2
  go_ret
  exact ⟨rfl, btr hB2 h2⟩
end Go.Proofs.YtiiiinoappjhdaaDoor
namespace Go.Proofs.YtiiiinoappjhdaaDoor
open Go.RowKit Go.Shelf
theorem properM_word {m : List (List Int)} (hv : validM m = true) (l : List Int) : isWordM m (properM m l) = true := by
  have := properM_len m l
  simp only [isWordM, Bool.and_eq_true, decide_eq_true_eq]
  exact ⟨by omega, properM_all hv l⟩
set_option maxRecDepth 100000 in
set_option maxHeartbeats 1000000 in
theorem topShortest_bad (v u1 : Value) (m : List (List Int)) (w : World) (hT : Tab w) (h : Rows w v m) (hbad : (validM m && decide (m.length ≤ 9)) = false) :
    Calls Tryd.prog 8 #[.agg #[v], u1] w fun e w' => e = .returned (.bool true) ∧ Below w.heap.size w w' := by
  obtain ⟨A, cap, rfl, hml, -⟩ := id h
  have hX := bal (Below.refl _ w) (.cells #[.slice A m.length cap] 24)
  have hbx := (Boxed.new w 24 (.slice A m.length cap)).cell
  have Hbad := hid hbad
  clear hbad
  go_enter Tryd.func8, Tryd.ntmps8
  go_wp2_with fail
  have hr := h.below hX
  have hTX := hT.on hX
  generalize w.alloc (.cells #[.slice A m.length cap] 24) = X at *
  cases hv : validM m with
  | false =>
    refine (tValid_bool _ m false _ hr hv).mono ?_
    rintro e w1 ⟨rfl, h1⟩
    go_wp2_with fail
    refine (tShortens_any w1 (hTX.on h1)).mono ?_
    rintro e w4 ⟨rfl, h4⟩
    go_wp2
    go_ret
    exact ⟨rfl, btr hX (btr h1 h4)⟩
  | true =>
    have h9 : 9 < m.length := by have := Hbad.out; rw [hv] at this; simpa using this
    refine (tValid_bool _ m true _ hr hv).mono ?_
    rintro e w1 ⟨rfl, h1⟩
    have c1 := (h1.cell (p := ⟨w.heap.size, 0, none⟩) (World.block_lt_of_cell? _ _ hbx)).trans hbx
    have d1 : decide ((9 : Int) < m.length) = true := by simp; omega
    go_wp2_with fail
    refine (tShortens_any w1 (hTX.on h1)).mono ?_
    rintro e w4 ⟨rfl, h4⟩
    go_wp2
    go_ret
    exact ⟨rfl, btr hX (btr h1 h4)⟩
set_option maxRecDepth 100000 in
set_option maxHeartbeats 8000000 in
theorem topShortest_walk (v u1 : Value) (m : List (List Int)) (ul : List Int) (i0 : Nat) (c : Int) (l : List Int) (w : World) (hT : Tab w) (h : Rows w v m) (hu1 : Ints w u1 ul) (hv : validM m = true) (h9 : m.length ≤ 9)
    (hi0 : i0 < (imgF m).length) (hmin : ∀ j, j < (imgF m).length → szB (imgF m) i0 ≤ szB (imgF m) j) (hfirst : ∀ j, j < i0 → szB (imgF m) i0 < szB (imgF m) j)
    (hr1 : (rkS (imgF m) m.length (imgF m).length).1 = szB (imgF m) i0) (hr2 : (rkS (imgF m) m.length (imgF m).length).2 = wordB (imgF m) i0) (hcl : ShortAs (szB (imgF m) i0) (wordB (imgF m) i0) c l) :
    Calls Tryd.prog 8 #[.agg #[v], u1] w fun e w' => e = .returned (.bool true) ∧ Below w.heap.size w w' := by
  obtain ⟨p1, p2, -⟩ := valid_parts hv
  have h12 : m.length ≤ 12 := by omega
  obtain ⟨A, cap, rfl, hml, -⟩ := id h
  obtain ⟨Au, capu, rfl, -, -⟩ := id hu1
  have hX := bal (Below.refl _ w) (.cells #[.slice A m.length cap] 24)
  have hbx := (Boxed.new w 24 (.slice A m.length cap)).cell
  have hpw := properM_word hv ul
  obtain ⟨hk1, hk2⟩ := least_ok hv h12 hi0 hmin hfirst (isWordM_all hpw)
  have hs1 := szB_image hv h12 hi0 (imgF_word hv hi0).2
  have hLw := imgF_isWord hv h12 hi0
  have hLl := imgF_len hv h12 hi0
  have hrp := szB_pos hv h12 hi0
  have hprop := fun (W : World) (k1 : Rows W (.slice A m.length cap) m) (k2 : Ints W (.slice Au ul.length capu) ul) => tProper_any (.slice A m.length cap) (.slice Au ul.length capu) m ul W k1 k2 hv
  have hshort := fun v w hT h => Shortest_as v m i0 c l w hT h hv h12 hi0 hmin hfirst (hid hcl)
  have hrank := fun v w hT h => Rank_as v m (szB (imgF m) i0) (wordB (imgF m) i0) w hT h hv h12 (hid hr1) (hid hr2) hLl
  have hrle : szB (imgF m) i0 ≤ 64 := elems_length _
  generalize szB (imgF m) i0 = r at *
  generalize wordB (imgF m) i0 = L0 at *
  generalize properM m ul = L at *
  obtain ⟨sp, hsp⟩ : ∃ k, (imageM m (allM m.length) L).length = k := ⟨_, rfl⟩
  have hsp64 : sp ≤ 64 := by rw [← hsp, image_len (by omega)]; exact elems_length _
  rw [hsp] at hk1 hk2
  have hcm : sp = r → comesB L L0 = false := fun e => by
    unfold comesB
    rcases hk2 with e2 | e2 | ⟨e2, e3⟩
    · omega
    · rw [if_neg (by omega)]; exact decide_eq_false (by omega)
    · rw [if_pos e2]; exact e3
  have Hcm := hid hcm
  have Hsp := hid hsp
  have Hs1 := hid hs1
  have Hprop := hid hprop
  have Hshort := hid hshort
  have Hrank := hid hrank
  have Hpw := hid hpw
  have HLw := hid hLw
  have Hcl := hid hcl
  have hd9 : decide ((9 : Int) < m.length) = false := by simp; omega
  have hd1 : decide ((r : Int) < 1) = false := by simp; omega
  have hd1n : ¬ r < 1 := by omega
  have hd2 : decide ((sp : Int) < r) = false := by simp; omega
  have hd2n : ¬ sp < r := by omega
  have hd3 : ((r : Int) != r) = false := by simp
  clear hcm hsp hs1 hprop hshort hrank hpw hLw hcl hk2 hi0 hmin hfirst hr1 hr2
  go_enter Tryd.func8, Tryd.ntmps8
  go_wp2_with fail
  have hr := h.below hX
  have hTX := hT.on hX
  have hua := hu1.below hX
  generalize w.alloc (.cells #[.slice A m.length cap] 24) = X at *
  refine (tValid_bool _ m true _ hr hv).mono ?_
  rintro e w1 ⟨rfl, h1⟩
  have c1 := (h1.cell (p := ⟨w.heap.size, 0, none⟩) (World.block_lt_of_cell? _ _ hbx)).trans hbx
  go_wp2_with fail
  refine (Hprop.out _ (hr.below h1) (hua.below h1)).mono ?_
  rintro e w2 ⟨A2, k2, rfl, -, i2, h2⟩
  have B2 := btr h1 h2
  have c2 := (h2.cell (p := ⟨w.heap.size, 0, none⟩) (World.block_lt_of_cell? _ _ c1)).trans c1
  go_wp2_with fail
  refine (Hshort.out _ _ (hTX.on B2) (hr.below B2)).mono ?_
  rintro e w4 ⟨A4, k4, rfl, i4, h4⟩
  have B4 := btr B2 h4
  have c4 := (h4.cell (p := ⟨w.heap.size, 0, none⟩) (World.block_lt_of_cell? _ _ c2)).trans c2
  have i24 := i2.below h4
  go_wp2_with fail
  refine (Hrank.out _ _ (hTX.on B4) (hr.below B4)).mono ?_
  rintro e w5 ⟨A5, k5, rfl, i5, h5⟩
  have B5 := btr B4 h5
  have c5 := (h5.cell (p := ⟨w.heap.size, 0, none⟩) (World.block_lt_of_cell? _ _ c4)).trans c4
  have i25 := i24.below h5
  have i45 := i4.below h5
  clear c1 c2 c4 h1 h2 h4 h5 B2 B4 i2 i4 i24 hbx
  go_wp2_with fail
  refine (tRight_any _ _ m L0 _ (hr.below B5) i5 hv HLw.out).mono ?_
  rintro e w6 ⟨rfl, h6⟩
  have B6 := btr B5 h6
  have c6 := (h6.cell (p := ⟨w.heap.size, 0, none⟩) (World.block_lt_of_cell? _ _ c5)).trans c5
  go_wp2_with fail
  refine (tSpread_as _ _ m L0 r _ (hr.below B6) (i5.below h6) hv HLw.out Hs1).mono ?_
  rintro e w7 ⟨rfl, h7⟩
  have b7 := btr h6 h7
  have B7 := btr B5 b7
  have c7 := (h7.cell (p := ⟨w.heap.size, 0, none⟩) (World.block_lt_of_cell? _ _ c6)).trans c6
  have i27 := i25.below b7
  have i47 := i45.below b7
  have i57 := i5.below b7
  clear c5 c6 h6 h7 b7 B5 B6 i25 i45 i5
  go_wp2_with fail
  refine (tSpread_as _ _ m L sp _ (hr.below B7) i27 hv Hpw.out Hsp).mono ?_
  rintro e w8 ⟨rfl, h8⟩
  have c8 := (h8.cell (p := ⟨w.heap.size, 0, none⟩) (World.block_lt_of_cell? _ _ c7)).trans c7
  go_wp2_with fail
  refine (tSpread_as _ _ m L sp _ (hr.below (btr B7 h8)) (i27.below h8) hv Hpw.out Hsp).mono ?_
  rintro e w9 ⟨rfl, h9'⟩
  have b9 := btr h8 h9'
  have B9 := hid (btr B7 b9)
  have c9 := (h9'.cell (p := ⟨w.heap.size, 0, none⟩) (World.block_lt_of_cell? _ _ c8)).trans c8
  have i29 := i27.below b9
  have i49 := i47.below b9
  have i59 := i57.below b9
  have Hfin := hid (fun W (hb : Below X.heap.size X W) => tShortens_any W (hTX.on hb))
  clear c7 c8 h8 h9' b9 B7 i27 i47 i57
  rcases Hcl.out with ⟨hr0, rfl, rfl⟩ | ⟨hr0, rfl, rfl⟩
  · subst hr0
    by_cases hsr : sp = 1
    · subst hsr
      have Hc := hid (Hcm.out rfl)
      go_wp2_with fail
      refine (tComes_any _ _ L l _ i29 i59).mono ?_
      rw [Hc.out]
      rintro e w10 ⟨rfl, h10⟩
      have BB := hid (btr B9.out h10)
      have cc := (h10.cell (p := ⟨w.heap.size, 0, none⟩) (World.block_lt_of_cell? _ _ c9)).trans c9
      have il := i29.below h10
      have iw := i49.below h10
      clear c9 h10 i29 i49 i59
      go_wp2_with fail
      refine (tRight_any _ _ m l _ (hr.below BB.out) iw hv HLw.out).mono ?_
      rintro e w11 ⟨rfl, h11⟩
      have B11 := btr BB.out h11
      have c11 := (h11.cell (p := ⟨w.heap.size, 0, none⟩) (World.block_lt_of_cell? _ _ cc)).trans cc
      go_wp2_with fail
      refine (tSpread_as _ _ m l 1 _ (hr.below B11) (iw.below h11) hv HLw.out Hs1).mono ?_
      rintro e w12 ⟨rfl, h12'⟩
      have b12 := btr h11 h12'
      have B12 := btr B11 h12'
      have c12 := (h12'.cell (p := ⟨w.heap.size, 0, none⟩) (World.block_lt_of_cell? _ _ c11)).trans c11
      go_wp2_with fail
      refine (tSpread_as _ _ m L 1 _ (hr.below B12) (il.below b12) hv Hpw.out Hsp).mono ?_
      rintro e w13 ⟨rfl, h13⟩
      have b13 := btr b12 h13
      have B13 := hid (btr B12 h13)
      have il13 := il.below b13
      have iw13 := iw.below b13
      clear c11 c12 h11 h12' b12 h13 b13 B11 B12
      go_wp2_with fail
      refine (tComes_any _ _ L l _ il13 iw13).mono ?_
      rw [Hc.out]
      rintro e w14 ⟨rfl, h14⟩
      have B14 := hid (btr B13.out h14)
      go_wp2_with fail
      refine (Hfin.out _ B14.out).mono ?_
      rintro e w15 ⟨rfl, h15⟩
      go_wp2
      go_ret
      exact ⟨rfl, btr hX (btr B14.out h15)⟩
    · have e1 : ((sp : Int) == ((1 : Nat) : Int)) = false := beq_eq_false_iff_ne.2 (by omega)
      have e2 : ((sp : Int) == 1) = false := beq_eq_false_iff_ne.2 (by omega)
      have e3 : (sp == 1) = false := beq_eq_false_iff_ne.2 hsr
      have BB := B9
      have cc := c9
      have il := i29
      have iw := i49
      clear c9 i29 i49 i59 B9
      go_wp2_with fail
      refine (tRight_any _ _ m l _ (hr.below BB.out) iw hv HLw.out).mono ?_
      rintro e w11 ⟨rfl, h11⟩
      have B11 := btr BB.out h11
      have c11 := (h11.cell (p := ⟨w.heap.size, 0, none⟩) (World.block_lt_of_cell? _ _ cc)).trans cc
      go_wp2_with fail
      refine (tSpread_as _ _ m l 1 _ (hr.below B11) (iw.below h11) hv HLw.out Hs1).mono ?_
      rintro e w12 ⟨rfl, h12'⟩
      have b12 := btr h11 h12'
      have B12 := btr B11 h12'
      have c12 := (h12'.cell (p := ⟨w.heap.size, 0, none⟩) (World.block_lt_of_cell? _ _ c11)).trans c11
      go_wp2_with fail
      refine (tSpread_as _ _ m L sp _ (hr.below B12) (il.below b12) hv Hpw.out Hsp).mono ?_
      rintro e w13 ⟨rfl, h13⟩
      have b13 := btr b12 h13
      have B13 := hid (btr B12 h13)
      have il13 := il.below b13
      have iw13 := iw.below b13
      clear c11 c12 h11 h12' b12 h13 b13 B11 B12
      go_wp2_with fail
      refine (Hfin.out _ B13.out).mono ?_
      rintro e w15 ⟨rfl, h15⟩
      go_wp2
      go_ret
      exact ⟨rfl, btr hX (btr B13.out h15)⟩
  · have hr1 : ((r : Int) == 1) = false := beq_eq_false_iff_ne.2 (by omega)
    have hr1n : (r == 1) = false := beq_eq_false_iff_ne.2 hr0
    have hg : decide ((1 : Int) < sp) = true := by simp; omega
    have hgn : 1 < sp := by omega
    by_cases hsr : sp = r
    · subst hsr
      have Hc := hid (Hcm.out rfl)
      go_wp2_with fail
      refine (tComes_any _ _ L L0 _ i29 i59).mono ?_
      rw [Hc.out]
      rintro e w10 ⟨rfl, h10⟩
      have BB := hid (btr B9.out h10)
      have cc := (h10.cell (p := ⟨w.heap.size, 0, none⟩) (World.block_lt_of_cell? _ _ c9)).trans c9
      have il := i29.below h10
      clear c9 h10 i29 i49 i59
      go_wp2_with fail
      refine (tSpread_as _ _ m L sp _ (hr.below BB.out) il hv Hpw.out Hsp).mono ?_
      rintro e w13 ⟨rfl, h13⟩
      have B13 := hid (btr BB.out h13)
      go_wp2_with fail
      refine (Hfin.out _ B13.out).mono ?_
      rintro e w15 ⟨rfl, h15⟩
      go_wp2
      go_ret
      exact ⟨rfl, btr hX (btr B13.out h15)⟩
    · have e1 : ((sp : Int) == (r : Int)) = false := beq_eq_false_iff_ne.2 (by omega)
      have e3 : (sp == r) = false := beq_eq_false_iff_ne.2 hsr
      go_wp2_with fail
      refine (tSpread_as _ _ m L sp _ (hr.below B9.out) i29 hv Hpw.out Hsp).mono ?_
      rintro e w13 ⟨rfl, h13⟩
      have B13 := hid (btr B9.out h13)
      go_wp2_with fail
      refine (Hfin.out _ B13.out).mono ?_
      rintro e w15 ⟨rfl, h15⟩
      go_wp2
      go_ret
      exact ⟨rfl, btr hX (btr B13.out h15)⟩
theorem topShortest_any (v u1 : Value) (m : List (List Int)) (ul : List Int) (w : World) (hT : Tab w) (h : Rows w v m) (hu1 : Ints w u1 ul) :
    Calls Tryd.prog 8 #[.agg #[v], u1] w fun e w' => e = .returned (.bool true) ∧ Below w.heap.size w w' := by
  cases hbad : (validM m && decide (m.length ≤ 9)) with
  | false => exact topShortest_bad v u1 m w hT h hbad
  | true =>
    simp only [Bool.and_eq_true, decide_eq_true_eq] at hbad
    obtain ⟨hv, h9⟩ := hbad
    obtain ⟨i0, hi0, hr1, hr2, hmin, hfirst⟩ := rank_spec hv
    by_cases hr : szB (imgF m) i0 = 1
    · exact topShortest_walk v u1 m ul i0 0 (wordB (imgF m) i0) w hT h hu1 hv h9 hi0 hmin hfirst hr1 hr2 (.inl ⟨hr, rfl, rfl⟩)
    · exact topShortest_walk v u1 m ul i0 4 [] w hT h hu1 hv h9 hi0 hmin hfirst hr1 hr2 (.inr ⟨hr, rfl, rfl⟩)
end Go.Proofs.YtiiiinoappjhdaaDoor
