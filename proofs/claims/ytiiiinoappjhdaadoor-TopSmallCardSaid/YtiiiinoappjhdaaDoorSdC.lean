/-
  Texts that the proof of the law stands on: W, V, O2, G4, Y18, Y31, Y32, Y24, Y33.
-/
import Derived.Test.YtiiiinoappjhdaaDoorSdB
import Derived.WalkKit
import Derived.ProofKit
import Derived.OpenShut
import Derived.Deep.DeepHandedRow
import Derived.Deep.DeepWitnessRowRef
import Derived.Lib.LaidTab
import Derived.Lib.LaidIn
import Derived.Lib.ItoaNum
import Derived.WideKeyArgs
import Derived.Test.YtiiiinoappjhdaaDoorRows
import Derived.Deep.CutRange
import Derived.Deep.RegionHeld3
namespace Go.Proofs.YtiiiinoappjhdaaDoor
open Go.ChangeShapes Go.WideShapes Go.ChangeAt Go.RowKit
theorem own : ownKnob Tryd.prog.godebug = none := by kernel_rfl
theorem gTab : Tryd.prog.globalNamed "math/bits.deBruijn64tab" = some 0 := by kernel_rfl
theorem gTabType : (Tryd.prog.globals[0]?).map (·.type) = some 101 := by kernel_rfl
theorem cellsTab : Tryd.prog.cellsOf 101 = 64 := by kernel_rfl
theorem cellsU8 : Tryd.prog.cellsOf 5 = 1 := by kernel_rfl
section
variable {H : Type} {enc : TypeId × Value → H}
/-- All arguments read as they did. -/
theorem TrodAll_stays {P : Program} (hl : laidOutB P = true) {W W' : World} {sp : Nat → Bool} : ∀ {ts : List TypeId} {vs : List Value} {ds : List (DataW H)} {ps : List MemPlace},
    (∀ t ∈ ts, P.readableRec t = true ∧ t < P.types.size) → DataW.TrodAll enc P W 0 (fun _ => true) true ts vs ds ps → (∀ x ∈ ps, W.sameAt W' x) → (∀ x ∈ ps, sp x.block = true) → DataW.TrodAll enc P W' 0 sp true ts vs ds ps
  | [], vs, ds, ps, _, h, _, _ => by cases vs <;> cases ds <;> simp_all [DataW.TrodAll]
  | t :: ts, vs, ds, ps, ht, h, hs, hsp => by
    obtain ⟨v, vs', d, ds', p, q, rfl, rfl, rfl, h0, r0⟩ := trodAll_cons h
    exact trodAll_cons_mk (WideElems.Trod_stays hl (ht t (by simp)).1 (ht t (by simp)).2 h0 (fun x hx => hs x (List.mem_append_left _ hx)) (fun x hx => hsp x (List.mem_append_left _ hx)))
      (TrodAll_stays hl (fun u hu => ht u (by simp [hu])) r0 (fun x hx => hs x (List.mem_append_right _ hx)) (fun x hx => hsp x (List.mem_append_right _ hx)))
end
end Go.Proofs.YtiiiinoappjhdaaDoor
namespace Go.Proofs.YtiiiinoappjhdaaDoor
open Go.ChangeShapes Go.WideShapes Go.ChangeAt Go.RowKit
noncomputable def laidWorld2 (os : Os) : World :=
  let w0 := World.holding Tryd.prog os ⟨#[], #[], []⟩
  let put (h : Array Obj) (g : Nat) (cs : Array Value) : Array Obj := h.modify g fun
    | .cells _ t frozen => .cells cs t frozen
    | o => o
  { w0 with heap := put w0.heap 0 (Lib.deBruijn64tab.map fun z : Nat => Value.int .u8 z).toArray }
set_option maxRecDepth 1000000 in
theorem laid_met2 (os : Os) (args : Array Value) : laidMet Tryd.prog Rows.shortFindsRow.laid ((laidWorld2 os).forCall (fun _ _ => 0) ⟨#[], args, []⟩).memory :=
  (LaidIn.of_run (l := Rows.shortFindsRow.laid) [0] 8 (by kernel_rfl) (by kernel_rfl) (by kernel_rfl) (by kernel_rfl)).met
/-- The table of the least bit, out of the list. -/
theorem tab_of2 {W : World} (h : laidMetH Tryd.prog Rows.shortFindsRow.laid W) : Tab W := by
  have h1 : laidMet Tryd.prog Rows.shortFindsRow.laid W := h
  have h2 : laidMet Tryd.prog (("math/bits.deBruijn64tab", Lib.tabData .u8 (Lib.deBruijn64tab.map fun x : Nat => (x : Int))) :: Rows.shortFindsRow.laid.drop 1) W := h1
  have h3 := Lib.tabIs_of_head gTab gTabType Tryd.underlying101 Tryd.underlying5 cellsU8 cellsTab h2
  intro j hj
  have h4 := h3.cell gTab j (by rw [List.length_map]; exact hj)
  rw [h4]
  have e : j < Lib.deBruijn64tab.length := hj
  simp [List.getD_eq_getElem?_getD, List.getElem?_eq_getElem e]
end Go.Proofs.YtiiiinoappjhdaaDoor
namespace Go.Proofs.YtiiiinoappjhdaaDoor
open Go.RowKit Go.Deep Go.ChangeShapes Go.WideShapes
/-- A slice of slices of ints, where a nil row has no room. -/
def RowsN (w : World) (v : Value) (m : List (List Int)) : Prop :=
  ∃ A cap, v = .slice A m.length cap ∧ m.length ≤ big ∧ ∀ i, i < m.length → ∃ b off Ar c, A = some ⟨b, off, none⟩ ∧ w.cell? ⟨b, off + i, none⟩ = some (.slice Ar (m.getD i []).length c) ∧ Ints w (.slice Ar (m.getD i []).length c) (m.getD i []) ∧ (Ar = none → c = 0)
theorem RowsN.rows {w : World} {v : Value} {m : List (List Int)} (h : RowsN w v m) : Rows w v m := by
  obtain ⟨A, cap, hv, hl, hc⟩ := h
  refine ⟨A, cap, hv, hl, fun i hi => ?_⟩
  obtain ⟨b, off, Ar, c, hA, hcell, hr, _⟩ := hc i hi
  exact ⟨b, off, _, hA, hcell, hr⟩
theorem RowsN.below {w w' : World} {v : Value} {m : List (List Int)} (h : RowsN w v m) (hb : Below w.heap.size w w') : RowsN w' v m := by
  obtain ⟨A, cap, hv, hl, hc⟩ := h
  refine ⟨A, cap, hv, hl, fun i hi => ?_⟩
  obtain ⟨b, off, Ar, c, hA, hcell, hr, hn⟩ := hc i hi
  exact ⟨b, off, Ar, c, hA, (hb.cell (p := ⟨b, off + i, none⟩) (World.block_lt_of_cell? _ _ hcell)).trans hcell, hr.below hb, hn⟩
section
variable {H : Type} {enc : TypeId × Value → H} {W : World} {base : Nat}
end
end Go.Proofs.YtiiiinoappjhdaaDoor
namespace Go.Proofs.YtiiiinoappjhdaaDoor
open Go.RowKit Go.Shelf
/-- Whether the one list of numbers comes before the other of as many. -/
def befB : List Int → List Int → Bool
  | x :: a, y :: b => if x = y then befB a b else decide (x < y)
  | _, _ => false
theorem befB_eq : ∀ l : List Int, befB l l = false
  | [] => rfl
  | x :: a => by rw [befB, if_pos rfl]; exact befB_eq a
theorem befB_lex : ∀ (l m : List Int), befB l m = true → lexLt l m
  | [], _, h => by simp [befB] at h
  | _ :: _, [], h => by simp [befB] at h
  | x :: a, y :: b, h => by
    by_cases e : x = y
    · rw [befB, if_pos e] at h
      exact .inr ⟨e, befB_lex a b h⟩
    · rw [befB, if_neg e] at h
      exact .inl (of_decide_eq_true h)
/-- A list's beginning. -/
theorem Ints.take {w : World} {A : Option Addr} {c : Nat} {l : List Int} (h : Ints w (.slice A l.length c) l) {k : Nat} (hk : k ≤ l.length) (d : Nat) : Ints w (.slice A k d) (l.take k) := by
  obtain ⟨A', c', hv, hl, hc⟩ := h
  simp only [Value.slice.injEq] at hv
  obtain ⟨rfl, -, rfl⟩ := hv
  have hlk : (l.take k).length = k := by simp; omega
  refine ⟨A, d, by rw [hlk], by omega, fun i hi => ?_⟩
  obtain ⟨b, off, hA, hcell⟩ := hc i (by omega)
  refine ⟨b, off, hA, ?_⟩
  rw [hcell]
  congr 2
  simp only [List.getD_eq_getElem?_getD, List.getElem?_take]
  rw [if_pos (by omega)]
end Go.Proofs.YtiiiinoappjhdaaDoor
namespace Go.Proofs.YtiiiinoappjhdaaDoor
open Go.RowKit Go.Shelf
/-- What Shortest returns beside what Rank does. -/
def ShortAs (r : Nat) (L : List Int) (c : Int) (l : List Int) : Prop := (r = 1 ∧ c = 0 ∧ l = L) ∨ (r ≠ 1 ∧ c = 4 ∧ l = [])
theorem Shortest_as (v : Value) (m : List (List Int)) (i0 : Nat) (c : Int) (l : List Int) (w : World) (hT : Tab w) (h : Rows w v m) (hv : validM m = true) (h12 : m.length ≤ 12) (hi0 : i0 < (imgF m).length)
    (hmin : ∀ j, j < (imgF m).length → szB (imgF m) i0 ≤ szB (imgF m) j) (hfirst : ∀ j, j < i0 → szB (imgF m) i0 < szB (imgF m) j) (hc : Hid (ShortAs (szB (imgF m) i0) (wordB (imgF m) i0) c l)) :
    Calls Tryd.prog 11 #[.agg #[v]] w fun e w' => ∃ A k, e = .returned (.tuple #[.slice A l.length k, .int .i64 c]) ∧ Ints w' (.slice A l.length k) l ∧ Below w.heap.size w w' := by
  refine (Shortest_ok v m w hT h hv h12).mono ?_
  rintro e w1 ⟨⟨i, r, hi, hs, hn, rfl, ho⟩ | ⟨hn, rfl⟩, hb⟩
  · have h1 := hmin i hi
    have h2 := szB_pos hv h12 hi0
    have hii : i = i0 := by
      rcases Nat.lt_trichotomy i i0 with e | e | e
      · have := hfirst i e; omega
      · exact e
      · have := hn i0 e; omega
    subst hii
    rcases hc.out with ⟨_, rfl, rfl⟩ | ⟨h3, _, _⟩
    · have hl := imgF_len hv h12 hi
      obtain ⟨A, k, rfl⟩ := ownsRow_slice ho
      exact ⟨A, k, rfl, Ints.of_own ho (by unfold big; omega), hb⟩
    · omega
  · rcases hc.out with ⟨h3, _, _⟩ | ⟨_, rfl, rfl⟩
    · exact absurd h3 (hn i0 hi0)
    · exact ⟨none, 0, rfl, Ints.nil _, hb⟩
/-- Any word leads to no fewer states than the rank; if to as many, then it is no shorter than the least word, nor before it. -/
theorem least_ok {m : List (List Int)} (hv : validM m = true) (h12 : m.length ≤ 12) {i0 : Nat} (hi0 : i0 < (imgF m).length) (hmin : ∀ j, j < (imgF m).length → szB (imgF m) i0 ≤ szB (imgF m) j) (hfirst : ∀ j, j < i0 → szB (imgF m) i0 < szB (imgF m) j)
    {ul : List Int} (hu : ul.all (inB 0 ((letters m : Int) - 1)) = true) : szB (imgF m) i0 ≤ (imageM m (allM m.length) ul).length ∧
      (szB (imgF m) i0 < (imageM m (allM m.length) ul).length ∨ (wordB (imgF m) i0).length < ul.length ∨ (ul.length = (wordB (imgF m) i0).length ∧ befB ul (wordB (imgF m) i0) = false)) := by
  obtain ⟨j, hj, hp, hle⟩ := imgF_has hv hu
  have hs := szB_image hv h12 hj hp
  rw [hs]
  have h1 := hmin j hj
  refine ⟨h1, ?_⟩
  by_cases h2 : szB (imgF m) i0 < szB (imgF m) j
  · exact .inl h2
  · right
    have hij : i0 ≤ j := Nat.le_of_not_lt fun hh => by have := hfirst j hh; omega
    have hSL : SLe (wordB (imgF m) i0) ul := by
      rcases Nat.lt_or_ge i0 j with e | e
      · exact .inr ((imgF_rise hv e hj).le hle)
      · obtain rfl : i0 = j := by omega
        exact hle
    rcases hSL with e | e | ⟨e, hlex⟩
    · right
      rw [e]; exact ⟨rfl, befB_eq _⟩
    · exact .inl e
    · right
      refine ⟨e.symm, ?_⟩
      cases hb : befB ul (wordB (imgF m) i0) with
      | false => rfl
      | true => exact absurd (lexLt.trans hlex (befB_lex _ _ hb)) (lexLt_irrefl _)
end Go.Proofs.YtiiiinoappjhdaaDoor
namespace Go.Proofs.YtiiiinoappjhdaaDoor
open Go.RowKit Go.Shelf
theorem pack4 : ((List.range 4).all fun a => (List.range 4).all fun b => (List.range 4).all fun c => (List.range 4).all fun d => Nat.blt (a + 4 * b + 16 * c + 64 * d) 256 && (Nat.beq (two4 (a + 4 * b + 16 * c + 64 * d) 0) a && (Nat.beq (two4 (a + 4 * b + 16 * c + 64 * d) 1) b && (Nat.beq (two4 (a + 4 * b + 16 * c + 64 * d) 2) c && Nat.beq (two4 (a + 4 * b + 16 * c + 64 * d) 3) d)))) = true := by decide +kernel
theorem pack4_spec (f : Nat → Nat) (hf : ∀ s, s < 4 → f s < 4) : ∃ A, A < 256 ∧ ∀ s, s < 4 → two4 A s = f s := by
  have h := List.all_eq_true.1 (List.all_eq_true.1 (List.all_eq_true.1 (List.all_eq_true.1 pack4 _ (List.mem_range.2 (hf 0 (by decide)))) _ (List.mem_range.2 (hf 1 (by decide)))) _ (List.mem_range.2 (hf 2 (by decide)))) _ (List.mem_range.2 (hf 3 (by decide)))
  simp only [Bool.and_eq_true] at h
  obtain ⟨h1, h2, h3, h4, h5⟩ := h
  refine ⟨f 0 + 4 * f 1 + 16 * f 2 + 64 * f 3, by have := h1; simp only [Nat.blt, Nat.ble_eq] at this; omega, fun s hs => ?_⟩
  rcases (show s = 0 ∨ s = 1 ∨ s = 2 ∨ s = 3 by omega) with rfl | rfl | rfl | rfl
  · exact Nat.eq_of_beq_eq_true h2
  · exact Nat.eq_of_beq_eq_true h3
  · exact Nat.eq_of_beq_eq_true h4
  · exact Nat.eq_of_beq_eq_true h5
theorem run_four {m : List (List Int)} {A B : Nat} (hA : ∀ s, s < 4 → two4 A s = nx m s 0) (hB : ∀ s, s < 4 → two4 B s = nx m s 1) : ∀ (u : List Int) (s : Nat), bin u → s < 4 → runM m s u = rn4 A B s u
  | [], _, _, _ => rfl
  | x :: u, s, hu, hs => by
    show runM m (nx m s x) u = rn4 A B (st4 A B s x) u
    have hx : nx m s x = st4 A B s x := by
      unfold st4
      rcases hu x (by simp) with rfl | rfl
      · rw [if_pos rfl, hA s hs]
      · rw [if_neg (by decide), hB s hs]
    rw [hx]
    refine run_four hA hB u _ (fun y hy => hu y (by simp [hy])) ?_
    unfold st4; split <;> exact two4_lt _ _
theorem bin_all {m : List (List Int)} (h2 : letters m = 2) (u : List Int) : u.all (inB 0 ((letters m : Int) - 1)) = true ↔ bin u := by
  rw [List.all_eq_true, h2]
  constructor
  · intro h x hx
    have := inB_iff.1 (h x hx)
    omega
  · intro h x hx
    rcases h x hx with rfl | rfl <;> decide
/-- All states are led to one: the set to which they are led has one element. -/
theorem elems_one_of {m : List (List Int)} (hv : validM m = true) {u : List Int} (hu : isWordM m u = true) {t : Nat} (ht : ∀ s, s < m.length → runM m s u = t) : (elems (imgWord m (2 ^ m.length - 1) u)).length = 1 := by
  obtain ⟨p1, p2, -⟩ := valid_parts hv
  rw [← image_len (by omega)]
  have key : ∀ x, x ∈ elems (imgWord m (ofList (allM m.length)) u) ↔ x = t := fun x => by
    rw [← hasB_intsOf]
    show hasB (imageM m (allM m.length) u) x = true ↔ _
    rw [hasB_all hv hu]
    constructor
    · rintro ⟨s, hs, rfl⟩; exact ht s hs
    · rintro rfl; exact ⟨0, by omega, ht 0 (by omega)⟩
  have hn := elems_nodup (imgWord m (ofList (allM m.length)) u)
  have e : (imageM m (allM m.length) u).length = (elems (imgWord m (ofList (allM m.length)) u)).length := by unfold imageM intsOf; simp
  rw [e]
  generalize elems (imgWord m (ofList (allM m.length)) u) = L at *
  cases L with
  | nil => have := (key t).2 rfl; simp at this
  | cons a L =>
    cases L with
    | nil => rfl
    | cons b L =>
      have h1 := (key a).1 (by simp)
      have h2 := (key b).1 (by simp)
      rw [List.nodup_cons] at hn
      exact absurd (by rw [h1, h2]; simp : a ∈ b :: L) hn.1
/-- At most four states, two letters: a word of at most (n - 1)^2 letters. -/
theorem small_word {m : List (List Int)} (hv : validM m = true) (hn : m.length ≤ 4) (h2 : letters m = 2) (hall : allMerge m) :
    ∃ u : List Int, u.all (inB 0 ((letters m : Int) - 1)) = true ∧ u.length ≤ (m.length - 1) * (m.length - 1) ∧ (elems (imgWord m (2 ^ m.length - 1) u)).length = 1 := by
  obtain ⟨p1, p2, -⟩ := valid_parts hv
  by_cases h4 : m.length = 4
  · obtain ⟨A, hA, hA2⟩ := pack4_spec (fun s => nx m s 0) (fun s hs => by
      have := (nx_ok hv (s := s) (by omega) (x := 0) (by omega) (by omega)).1
      omega)
    obtain ⟨B, hB, hB2⟩ := pack4_spec (fun s => nx m s 1) (fun s hs => by
      have := (nx_ok hv (s := s) (by omega) (x := 1) (by omega) (by omega)).1
      omega)
    rcases good4_all hA hB with ⟨u, u1, u2, t, ht, u3⟩ | ⟨p, q, hpq, hq, hne⟩
    · have hu := (bin_all h2 u).2 u1
      refine ⟨u, hu, by rw [h4]; exact u2, ?_⟩
      refine elems_one_of hv (t := t) (by simp only [isWordM, Bool.and_eq_true, decide_eq_true_eq]; exact ⟨by omega, hu⟩) fun s hs => ?_
      rw [run_four hA2 hB2 u s u1 (by omega)]
      exact u3 s (by omega)
    · obtain ⟨k, u, hu, -, he⟩ := hall p q hpq (by omega)
      have u1 := (bin_all h2 u).1 hu
      rw [run_four hA2 hB2 u p u1 (by omega), run_four hA2 hB2 u q u1 hq] at he
      exact absurd he (hne u)
  · obtain ⟨r1, r2, r3⟩ := resetW_ok hv hall
    refine ⟨_, r1, ?_, r2⟩
    rcases (show m.length = 1 ∨ m.length = 2 ∨ m.length = 3 by omega) with e | e | e <;> rw [e] at r3 ⊢ <;> omega
/-- A word whose set has one element: all pairs are merged. -/
theorem allMerge_of {m : List (List Int)} (hv : validM m = true) {u : List Int} (hu : isWordM m u = true) (h : (imageM m (allM m.length) u).length = 1) : allMerge m := by
  obtain ⟨x, hx⟩ := List.length_eq_one_iff.1 h
  obtain ⟨t, -, ht⟩ := image_one hv hu hx
  intro p q hpq hq
  exact ⟨u.length, u, isWordM_all hu, rfl, by rw [ht p (by omega), ht q hq]⟩
/-- Shortest of an automaton whose states are all merged, and of another one. -/
def SmallIs (m : List (List Int)) (c : Int) (l : List Int) : Prop := (allMerge m ∧ c = 0 ∧ isWordM m l = true ∧ l.length ≤ (resetW m).length ∧ (∃ t, t < m.length ∧ ∀ s, s < m.length → runM m s l = t) ∧ (letters m = 2 → m.length ≤ 4 → l.length ≤ (m.length - 1) * (m.length - 1))) ∨ (¬ allMerge m ∧ c = 4 ∧ l = [])
theorem Shortest_small (v : Value) (m : List (List Int)) (w : World) (hT : Tab w) (h : Rows w v m) (hv : validM m = true) (h12 : m.length ≤ 12) :
    ∃ c l, SmallIs m c l ∧ Calls Tryd.prog 11 #[.agg #[v]] w fun e w' => ∃ A k, e = .returned (.tuple #[.slice A l.length k, .int .i64 c]) ∧ Ints w' (.slice A l.length k) l ∧ Below w.heap.size w w' := by
  obtain ⟨p1, p2, -⟩ := valid_parts hv
  obtain ⟨i0, hi0, -, -, hmin, hfirst⟩ := rank_spec hv
  by_cases h1 : szB (imgF m) i0 = 1
  · have hw := imgF_isWord hv h12 hi0
    have hs := szB_image hv h12 hi0 (imgF_word hv hi0).2
    have hall := allMerge_of hv hw (hs.trans h1)
    refine ⟨0, wordB (imgF m) i0, .inl ⟨hall, rfl, hw, ?_, ?_, fun h2 hn => ?_⟩, Shortest_as v m i0 0 _ w hT h hv h12 hi0 hmin hfirst (hid (.inl ⟨h1, rfl, rfl⟩))⟩
    · obtain ⟨r1, r2, -⟩ := resetW_ok hv hall
      obtain ⟨k1, k2⟩ := least_ok hv h12 hi0 hmin hfirst r1
      rw [image_len (by omega), r2] at k2
      omega
    · obtain ⟨x, hx⟩ := List.length_eq_one_iff.1 (hs.trans h1)
      obtain ⟨t, -, ht⟩ := image_one hv hw hx
      refine ⟨t, ?_, ht⟩
      rw [← ht 0 p1]
      exact runM_lt hv _ 0 p1 (isWordM_all hw)
    · obtain ⟨u, u1, u2, u3⟩ := small_word hv hn h2 hall
      obtain ⟨k1, k2⟩ := least_ok hv h12 hi0 hmin hfirst u1
      rw [image_len (by omega), u3] at k2
      omega
  · refine ⟨4, [], .inr ⟨fun hall => ?_, rfl, rfl⟩, Shortest_as v m i0 4 _ w hT h hv h12 hi0 hmin hfirst (hid (.inr ⟨h1, rfl, rfl⟩))⟩
    obtain ⟨r1, r2, -⟩ := resetW_ok hv hall
    obtain ⟨k1, -⟩ := least_ok hv h12 hi0 hmin hfirst r1
    rw [image_len (by omega), r2] at k1
    have := szB_pos hv h12 hi0
    omega
end Go.Proofs.YtiiiinoappjhdaaDoor
namespace Go.Proofs.YtiiiinoappjhdaaDoor
open Go.RowKit Go.Shelf
theorem valid_two {m : List (List Int)} (h1 : 1 ≤ m.length) (h60 : m.length ≤ 60) (hr : ∀ r ∈ m, r.length = 2 ∧ ∀ x ∈ r, 0 ≤ x ∧ x < m.length) : validM m = true ∧ letters m = 2 := by
  have hl : letters m = 2 := by
    cases m with
    | nil => simp at h1
    | cons r m => exact (hr r (by simp)).1
  refine ⟨?_, hl⟩
  have e1 : inB 1 60 m.length = true := inB_true (by omega)
  have e2 : inB 1 6 (letters m) = true := inB_true (by omega)
  have e3 : m.all (rowOk m) = true := by
    rw [List.all_eq_true]
    intro r hm
    obtain ⟨a1, a2⟩ := hr r hm
    simp only [rowOk, Bool.and_eq_true, decide_eq_true_eq]
    refine ⟨by omega, ?_⟩
    rw [List.all_eq_true]
    intro x hx
    have := a2 x hx
    exact inB_true (by omega)
  simp [validM, e1, e2, e3]
/-- The rows that are there have two states each. -/
def TwoRows (n : Nat) (M : List (List Int)) : Prop := ∀ r ∈ M, r.length = 2 ∧ ∀ x ∈ r, 0 ≤ x ∧ x < (n : Int)
theorem TwoRows.push {n : Nat} {M : List (List Int)} (h : TwoRows n M) {r : List Int} (h2 : r.length = 2) (hr : ∀ x ∈ r, 0 ≤ x ∧ x < (n : Int)) : TwoRows n (M ++ [r]) := fun r' hr' => by
  rcases List.mem_append.1 hr' with e | e
  · exact h r' e
  · rw [List.mem_singleton.1 e]; exact ⟨h2, hr⟩
end Go.Proofs.YtiiiinoappjhdaaDoor
namespace Go.Proofs.YtiiiinoappjhdaaDoor
open Go.RowKit Go.Shelf
set_option maxRecDepth 100000 in
set_option maxHeartbeats 1000000 in
theorem tSameInts_any (v u : Value) (l m : List Int) (w : World) (h : Ints w v l) (hu : Ints w u m) :
    Calls Tryd.prog 54 #[v, u] w fun e w' => e = .returned (.bool (decide (l = m))) ∧ Below w.heap.size w w' := by
  obtain ⟨A, cap, rfl, hl, hc⟩ := h
  obtain ⟨Au, capu, rfl, hlu, hcu⟩ := hu
  unfold big at hl hlu
  by_cases hlen : l.length = m.length
  · have hne : ((l.length : Int) != (m.length : Int)) = false := by simp; omega
    have Hlen := hid hlen
    clear hlen
    go_enter Tryd.func54, Tryd.ntmps54
    go_wp2
    go_loopw [5] (fun i wr => ∃ k : Nat, k ≤ l.length ∧ i = .int .i64 k ∧ l.take k = m.take k ∧ Below w.heap.size w wr) (fun i _ => l.length - (intOf i).toNat)
    case atStart => exact ⟨0, Nat.zero_le _, rfl, rfl, Below.refl _ _⟩
    case round =>
      obtain ⟨k, hk, rfl, htk, hB⟩ := hrel
      have Htk := hid htk
      clear htk
      by_cases hlt : k < l.length
      · have hle := Hlen.out
        obtain ⟨b, off, hA, hcell⟩ := hc k hlt
        obtain ⟨b', off', hA', hcell'⟩ := hcu k (by omega)
        subst hA
        subst hA'
        have c1 := (hB.cell (p := ⟨b, off + k, none⟩) (World.block_lt_of_cell? _ _ hcell)).trans hcell
        have c2 := (hB.cell (p := ⟨b', off' + k, none⟩) (World.block_lt_of_cell? _ _ hcell')).trans hcell'
        have Hs := hid (fun hx => take_eq_succ hlt Hlen.out Htk.out hx)
        have Hf := hid (fun hx => ne_of_getD (l := l) (m := m) (k := k) hx)
        have i1 : (k : Int) < l.length := by omega
        have i2 : (k : Int) < m.length := by omega
        clear hc hcu hcell hcell' hle
        generalize l.getD k 0 = x at *
        generalize m.getD k 0 = y at *
        by_cases hxy : x = y
        · have hd : (x != y) = false := by simp [hxy]
          have Hxy := hid hxy
          clear hxy
          go_wp2_with fail
          go_quiet (fail)
          go_wp2
          go_roundw
          case rel => exact ⟨k + 1, by omega, by go_num, Hs.out Hxy.out, bdr hB _⟩
          case measure => simp [intOf]; omega
        · have hd : (x != y) = true := by simp [hxy]
          have Hxy := hid hxy
          clear hxy
          go_wp2_with fail
          go_quiet (fail)
          go_wp2
          go_ret
          exact ⟨ret_bool (Hf.out Hxy.out).symm, bdr hB _⟩
      · go_wp2
        go_ret
        have h1 := Htk.out
        have h2 := Hlen.out
        rw [List.take_of_length_le (by omega), List.take_of_length_le (by omega)] at h1
        exact ⟨ret_bool (by simp [h1]), hB⟩
  · have hne : ((l.length : Int) != (m.length : Int)) = true := by simp; omega
    have Hlen := hid hlen
    clear hlen
    go_enter Tryd.func54, Tryd.ntmps54
    go_wp2
    go_ret
    exact ⟨ret_bool (by
      symm
      rw [decide_eq_false_iff_not]
      intro h
      exact Hlen.out (by rw [h])), Below.refl _ _⟩
set_option maxRecDepth 100000 in
set_option maxHeartbeats 1000000 in
theorem tShortens_any (w : World) (hT : Tab w) :
    Calls Tryd.prog 28 #[] w fun e w' => e = .returned (.bool true) ∧ Below w.heap.size w w' := by
  have hR := lit_rows w 1 0 2 1 0 0
  have hB := bal (bal (bal (bal (Below.refl _ w) (.cells #[.int .i64 1, .int .i64 0] 3)) (.cells #[.int .i64 2, .int .i64 1] 3)) (.cells #[.int .i64 0, .int .i64 0] 3)) (.cells #[.slice (some ⟨w.heap.size, 0, none⟩) 2 2, .slice (some ⟨w.heap.size + 1, 0, none⟩) 2 2, .slice (some ⟨w.heap.size + 1 + 1, 0, none⟩) 2 2] 25)
  rw [← c3_rows] at hR
  go_enter Tryd.func28, Tryd.ntmps28
  go_wp2_with fail
  refine (shortest_c3 _ _ (hT.on hB) hR).mono ?_
  rintro e w1 ⟨A, c, rfl, hI, h1⟩
  have hB1 := btr hB h1
  have hI2 := hI.alloc (.cells #[.int .i64 1, .int .i64 0, .int .i64 0, .int .i64 1] 3)
  have hI4 := Ints.four' w1 1 0 0 1 3 _ rfl
  have hB2 := bal hB1 (.cells #[.int .i64 1, .int .i64 0, .int .i64 0, .int .i64 1] 3)
  go_wp2_with fail
  refine (tSameInts_any _ _ [1, 0, 0, 1] [1, 0, 0, 1] _ hI2 hI4).mono ?_
  rintro e w2 ⟨rfl, h2⟩
  go_wp2
  go_ret
  exact ⟨rfl, btr hB2 h2⟩
end Go.Proofs.YtiiiinoappjhdaaDoor
namespace Go.Proofs.YtiiiinoappjhdaaDoor
open Go.RowKit Go.Shelf
theorem two_beside {w0 : World} {base : Nat} {g : Option Nat} {x y : Int} (hb : base ≤ w0.heap.size) (hg : ∀ q, g = some q → q < w0.heap.size) : IntsOff (w0.alloc (.cells #[.int .i64 x, .int .i64 y] 3)) base g (.slice (some ⟨w0.heap.size, 0, none⟩) 2 2) [x, y] := by
  refine ⟨_, 2, rfl, by unfold big; simp, fun i hi => ⟨w0.heap.size, 0, rfl, hb, fun e => ?_, ?_⟩⟩
  · have := hg _ e.symm; omega
  · have h2 : i = 0 ∨ i = 1 := by simp at hi; omega
    rcases h2 with rfl | rfl <;> simp
set_option maxRecDepth 100000 in
set_option maxHeartbeats 40000000 in
theorem topSmall_any (st : Int) (f : Nat → Int) (w : World) (hT : Tab w) :
    Calls Tryd.prog 10 #[.int .i64 st, .agg #[.int .i64 (f 0), .int .i64 (f 1), .int .i64 (f 2), .int .i64 (f 3), .int .i64 (f 4), .int .i64 (f 5), .int .i64 (f 6), .int .i64 (f 7)]] w fun e w' => e = .returned (.bool true) ∧ Below w.heap.size w w' := by
  obtain ⟨n, hn⟩ : ∃ n : Nat, 1 + st % 4 = (n : Int) := ⟨(1 + st % 4).toNat, by omega⟩
  have hn1 : 1 ≤ n := by omega
  have hn4 : n ≤ 4 := by omega
  have hcy := tCycle_any st 4
  obtain ⟨y, hy⟩ : ∃ y, st % 4 = y := ⟨_, rfl⟩
  rw [hy] at hcy hn
  have hn2 : IntKind.i64.wrap (1 + y) = n := by rw [hn, IntWalk.i64_in _ (by omega)]
  have Hcy := hid hcy
  have hX := bal (bal (Below.refl _ w) (.cells #[.int .i64 (f 0), .int .i64 (f 1), .int .i64 (f 2), .int .i64 (f 3), .int .i64 (f 4), .int .i64 (f 5), .int .i64 (f 6), .int .i64 (f 7)] 49)) (.cells #[.slice none 0 0] 24)
  have q1 := Boxed.new (w.alloc (.cells #[.int .i64 (f 0), .int .i64 (f 1), .int .i64 (f 2), .int .i64 (f 3), .int .i64 (f 4), .int .i64 (f 5), .int .i64 (f 6), .int .i64 (f 7)] 49)) 24 (.slice none 0 0)
  simp only [World.size_alloc] at q1
  have hXs : ((w.alloc (.cells #[.int .i64 (f 0), .int .i64 (f 1), .int .i64 (f 2), .int .i64 (f 3), .int .i64 (f 4), .int .i64 (f 5), .int .i64 (f 6), .int .i64 (f 7)] 49)).alloc (.cells #[.slice none 0 0] 24)).heap.size = w.heap.size + 2 := by simp
  have harr := hid (show ∀ i, i < 8 → ((w.alloc (.cells #[.int .i64 (f 0), .int .i64 (f 1), .int .i64 (f 2), .int .i64 (f 3), .int .i64 (f 4), .int .i64 (f 5), .int .i64 (f 6), .int .i64 (f 7)] 49)).alloc (.cells #[.slice none 0 0] 24)).cell? ⟨w.heap.size, i, none⟩ = some (.int .i64 (f i)) from fun i hi => by
    have h8 : i = 0 ∨ i = 1 ∨ i = 2 ∨ i = 3 ∨ i = 4 ∨ i = 5 ∨ i = 6 ∨ i = 7 := by omega
    rcases h8 with rfl | rfl | rfl | rfl | rfl | rfl | rfl | rfl <;> simp)
  clear hy hcy
  go_enter Tryd.func10, Tryd.ntmps10
  go_wp2_with fail
  refine (Hcy.out _ (by omega)).mono ?_
  rintro e w1 ⟨rfl, rfl⟩
  go_wp2_with fail
  generalize (w.alloc (.cells #[.int .i64 (f 0), .int .i64 (f 1), .int .i64 (f 2), .int .i64 (f 3), .int .i64 (f 4), .int .i64 (f 5), .int .i64 (f 6), .int .i64 (f 7)] 49)).alloc (.cells #[.slice none 0 0] 24) = X at *
  clear hn hn2
  go_loopw [7] (fun sv wr => ∃ (u : Value) (M : List (List Int)), M.length ≤ n ∧ sv = .int .i64 (M.length : Nat) ∧ TwoRows n M ∧ MRows wr (w.heap.size + 2) u M ∧ Below w.heap.size w wr ∧ Boxed wr (w.heap.size + 1) 24 u ∧ w.heap.size + 2 ≤ wr.heap.size ∧ Hid (∀ i, i < 8 → wr.cell? ⟨w.heap.size, i, none⟩ = some (.int .i64 (f i)))) (fun sv _ => n - (intOf sv).toNat)
  case atStart => exact ⟨.slice none 0 0, [], Nat.zero_le _, rfl, fun r hr => by simp at hr, MRows.nil _ _, hX, q1, by omega, harr⟩
  case round =>
    clear hX q1 hXs harr
    obtain ⟨u, M, hs, rfl, h2, hMR, hB, hb, hsz, harr⟩ := hrel
    have H2 := hid h2
    have HMR := hid hMR
    by_cases hlt : M.length < n
    · have hss : (M.length : Int) < n := by omega
      obtain ⟨vA, vc, rfl, hblk⟩ := hMR.slice
      obtain ⟨k1, hk1⟩ : ∃ k, 2 * M.length = k := ⟨_, rfl⟩
      obtain ⟨k2, hk2⟩ : ∃ k, k1 + 1 = k := ⟨_, rfl⟩
      have a1 := harr.out k1 (by omega)
      have a2 := harr.out k2 (by omega)
      have m2 := hb.cell
      have m2f := hb.frozen
      have hw1 : IntKind.i64.wrap (2 * (M.length : Int)) = (k1 : Int) := by rw [IntWalk.i64_in _ (by omega)]; omega
      have hw2 : IntKind.i64.wrap ((k1 : Int) + 1) = (k2 : Int) := by rw [IntWalk.i64_in _ (by omega)]; omega
      have i1 : (k1 : Int) < 8 := by omega
      have i2 : (k2 : Int) < 8 := by omega
      have i1n : k1 < 8 := by omega
      have i2n : k2 < 8 := by omega
      clear hk1 hk2
      obtain ⟨y1, hy1⟩ : ∃ y, f (k1) % (n : Int) = y := ⟨_, rfl⟩
      obtain ⟨y2, hy2⟩ : ∃ y, f (k2) % (n : Int) = y := ⟨_, rfl⟩
      have hb1 : 0 ≤ y1 ∧ y1 < n := by rw [← hy1]; exact ⟨Int.emod_nonneg _ (by omega), Int.emod_lt_of_pos _ (by omega)⟩
      have hb2 : 0 ≤ y2 ∧ y2 < n := by rw [← hy2]; exact ⟨Int.emod_nonneg _ (by omega), Int.emod_lt_of_pos _ (by omega)⟩
      have Hcy := hid (fun i w => tCycle_any i (n : Int) w (by omega))
      have Hrow := hid (show ∀ x ∈ [y1, y2], 0 ≤ x ∧ x < (n : Int) from fun x hx => by
        rcases List.mem_cons.1 hx with rfl | hx
        · exact hb1
        · rw [List.mem_singleton.1 hx]; exact hb2)
      clear hMR h2
      generalize f (k1) = f1 at *
      generalize f (k2) = f2 at *
      have HMa := hid ((HMR.out.below (below_dr wr 1)).below (bal (Below.refl _ wr.drew) (.cells #[.int .i64 y1, .int .i64 y2] 3)))
      have Hbes := hid (two_beside (w0 := wr.drew) (base := w.heap.size + 2) (g := (Value.slice vA M.length vc).ownBlock) (x := y1) (y := y2) hsz (fun q hq => (hblk q hq).2))
      have KK := hid (show ∀ (g c : Nat) (w5 : World), MRows w5 (w.heap.size + 2) (.slice (some ⟨g, 0, none⟩) (M.length + 1) c) (M ++ [[y1, y2]]) → Below (w.heap.size + 2) (wr.drew.alloc (.cells #[.int .i64 y1, .int .i64 y2] 3)) w5 → (wr.drew.alloc (.cells #[.int .i64 y1, .int .i64 y2] 3)).heap.size ≤ w5.heap.size →
          (w5.cell? ⟨w.heap.size + 1, 0, none⟩ = some (.slice vA M.length vc) ∧ w5.frozen? ⟨w.heap.size + 1, 0, none⟩ = false) ∧ MRows (w5.setCell ⟨w.heap.size + 1, 0, none⟩ (.slice (some ⟨g, 0, none⟩) (M.length + 1) c)) (w.heap.size + 2) (.slice (some ⟨g, 0, none⟩) (M.length + 1) c) (M ++ [[y1, y2]]) ∧
            Below w.heap.size w (w5.setCell ⟨w.heap.size + 1, 0, none⟩ (.slice (some ⟨g, 0, none⟩) (M.length + 1) c)) ∧ Boxed (w5.setCell ⟨w.heap.size + 1, 0, none⟩ (.slice (some ⟨g, 0, none⟩) (M.length + 1) c)) (w.heap.size + 1) 24 (.slice (some ⟨g, 0, none⟩) (M.length + 1) c) ∧
            w.heap.size + 2 ≤ (w5.setCell ⟨w.heap.size + 1, 0, none⟩ (.slice (some ⟨g, 0, none⟩) (M.length + 1) c)).heap.size ∧ Hid (∀ i, i < 8 → (w5.setCell ⟨w.heap.size + 1, 0, none⟩ (.slice (some ⟨g, 0, none⟩) (M.length + 1) c)).cell? ⟨w.heap.size, i, none⟩ = some (.int .i64 (f i))) from fun g c w5 k1 k2 k3 => by
        have n3 : Boxed w5 (w.heap.size + 1) 24 (.slice vA M.length vc) := (k2.block _ (by omega)).trans ((Below.heap_alloc wr.drew _ _ (by show w.heap.size + 1 < wr.heap.size; omega)).trans hb)
        refine ⟨⟨n3.cell, n3.frozen⟩, k1.kept (fun b hb _ => Below.heap_setCell _ _ _ _ (by simp; omega)), ?_, n3.set _, ?_, hid fun i hi => ?_⟩
        · exact (((hB.drew).alloc (by have := hB.size; simpa using this) _).trans (k2.mono (by omega))).setCell (p := ⟨w.heap.size + 1, 0, none⟩) (by show w.heap.size ≤ w.heap.size + 1; omega) _
        · simp at k3; simp [World.setCell]; omega
        · refine (World.cell?_of_block (Below.heap_setCell _ _ _ _ (by simp))).trans ?_
          refine (World.cell?_of_block (w := wr) ((k2.block _ (by show w.heap.size < w.heap.size + 2; omega)).trans (Below.heap_alloc wr.drew _ _ (by show w.heap.size < wr.heap.size; omega)))).trans (harr.out i hi))
      have KS := hid (fun (w5 : World) (k2' : Below (w.heap.size + 2) (wr.drew.alloc (.cells #[.int .i64 y1, .int .i64 y2] 3)) w5) => show w5.cell? ⟨w.heap.size, k1, none⟩ = some (.int .i64 f1) ∧ w5.cell? ⟨w.heap.size, k2, none⟩ = some (.int .i64 f2) from
        have hb := (k2'.block w.heap.size (by omega)).trans (Below.heap_alloc wr.drew _ _ (by show w.heap.size < wr.heap.size; omega))
        ⟨(World.cell?_of_block (w := wr) (a := ⟨w.heap.size, k1, none⟩) hb).trans a1, (World.cell?_of_block (w := wr) (a := ⟨w.heap.size, k2, none⟩) hb).trans a2⟩)
      have keep := hid (fun (w' : World) (hk : Below wr.heap.size wr w') => show w'.cell? ⟨w.heap.size, k1, none⟩ = some (.int .i64 f1) ∧ w'.cell? ⟨w.heap.size, k2, none⟩ = some (.int .i64 f2) ∧ w'.cell? ⟨w.heap.size + 1, 0, none⟩ = some (.slice vA M.length vc) from ⟨(hk.cell (p := ⟨w.heap.size, k1, none⟩) (World.block_lt_of_cell? _ _ a1)).trans a1, (hk.cell (p := ⟨w.heap.size, k2, none⟩) (World.block_lt_of_cell? _ _ a2)).trans a2, (hk.cell (p := ⟨w.heap.size + 1, 0, none⟩) (World.block_lt_of_cell? _ _ m2)).trans m2⟩)
      have m2a := (keep.out _ (bal (Below.refl _ wr) (.cells #[.int .i64 y1, .int .i64 y2] 3))).2.2
      have m2b := (keep.out _ (bal (bal (Below.refl _ wr) (.cells #[.int .i64 y1, .int .i64 y2] 3)) (.cells #[.slice (some ⟨wr.heap.size, 0, none⟩) 2 2] 25))).2.2
      have hbl2 : w.heap.size + 1 < wr.heap.size := by omega
      have hbl3 : ¬ w.heap.size + 1 = wr.heap.size := by omega
      have hbl4 : ¬ w.heap.size + 1 = wr.heap.size + 1 := by omega
      go_wp2_with fail
      go_region_law (first
        | (refine step_append_mrow rfl _ _ rfl (w.heap.size + 2) (.slice vA M.length vc) (.slice (some ⟨wr.heap.size, 0, none⟩) 2 2) M [y1, y2] _ (wr.drew.alloc (.cells #[.int .i64 y1, .int .i64 y2] 3)) rfl (wr.heap.size + 1) (by simp) rfl HMa.out rfl Hbes.out (by simp; omega) (by omega) ?_; intro g1 cap1 w5 e1 e2 e3; have K5 := KK.out g1 cap1 w5 e1 e2 e3; have K51 := K5.1.1; have K52 := K5.1.2)
        | (go_simp; go_at_call 33; refine (Hcy.out _ _).mono ?_; rintro e y5 ⟨rfl, rfl⟩))
      all_goals go_wp2
      all_goals go_roundw
      all_goals first
        | exact ⟨_, M ++ [[y1, y2]], by simp; omega, by simp [go_sem], H2.out.push rfl Hrow.out, K5.2.1, K5.2.2.1, K5.2.2.2.1, K5.2.2.2.2.1, K5.2.2.2.2.2⟩
        | (simp [intOf]; omega)
    · obtain rfl : n = M.length := by omega
      have hss : ¬ ((M.length : Nat) : Int) < M.length := by omega
      obtain ⟨hv, hl2⟩ := valid_two hn1 (by omega) h2
      have hR := hMR.rows (by unfold big; omega)
      obtain ⟨vA, vc, rfl, -⟩ := hMR.slice
      have m2 := hb.cell
      obtain ⟨e1, l, hsm, hcall⟩ := Shortest_small _ M wr (hT.on hB) hR hv (by omega)
      have Hcall := hid hcall
      have hsub : IntKind.i64.wrap ((M.length : Int) - 1) = ((M.length - 1 : Nat) : Int) := by rw [IntWalk.i64_in _ (by omega)]; omega
      have hmm : (M.length - 1) * (M.length - 1) ≤ 9 := Nat.mul_le_mul (show M.length - 1 ≤ 3 by omega) (show M.length - 1 ≤ 3 by omega)
      have hc : ((M.length - 1 : Nat) : Int) * ((M.length - 1 : Nat) : Int) = (((M.length - 1) * (M.length - 1) : Nat) : Int) := by simp
      have hmul : IntKind.i64.wrap (((M.length - 1 : Nat) : Int) * ((M.length - 1 : Nat) : Int)) = (((M.length - 1) * (M.length - 1) : Nat) : Int) := by rw [hc, IntWalk.i64_in _ (by omega)]
      have hboxk := hid (fun (W : World) (hk : Below wr.heap.size wr W) => show W.cell? ⟨w.heap.size + 1, 0, none⟩ = some (.slice vA M.length vc) from (hk.cell (p := ⟨w.heap.size + 1, 0, none⟩) (World.block_lt_of_cell? _ _ m2)).trans m2)
      rcases hsm with ⟨hall, rfl, hlw, -, ⟨t, ht, hrun⟩, hlb⟩ | ⟨hno, rfl, rfl⟩
      · have hlb2 := hlb hl2 hn4
        have Hrun := hid hrun
        have Hlw := hid hlw
        generalize (M.length - 1) * (M.length - 1) = K at *
        clear hc
        have d1 : decide ((l.length : Int) ≤ (K : Int)) = true := by simp; omega
        clear hMR h2 H2 HMR hall hlw hlb hrun
        go_wp2_with fail
        refine Hcall.out.mono ?_
        rintro e w4 ⟨A4, k4, rfl, i4, h4⟩
        have b4 := hboxk.out _ h4
        go_wp2_with fail
        refine (tSpread_one _ _ M l t _ (hR.below h4) i4 hv (isWordM_all Hlw.out) ht Hrun.out).mono ?_
        rintro e w5 ⟨rfl, h5⟩
        have B5 := btr h4 h5
        go_wp2_with fail
        refine (tShortens_any _ ((hT.on hB).on B5)).mono ?_
        rintro e w6 ⟨rfl, h6⟩
        go_wp2
        go_ret
        exact ⟨rfl, btr hB (btr B5 h6)⟩
      · clear hMR h2 H2 HMR hno
        go_wp2_with fail
        refine Hcall.out.mono ?_
        rintro e w4 ⟨A4, k4, rfl, i4, h4⟩
        go_wp2_with fail
        refine (tShortens_any _ ((hT.on hB).on h4)).mono ?_
        rintro e w6 ⟨rfl, h6⟩
        go_wp2
        go_ret
        exact ⟨rfl, btr hB (btr h4 h6)⟩
end Go.Proofs.YtiiiinoappjhdaaDoor
