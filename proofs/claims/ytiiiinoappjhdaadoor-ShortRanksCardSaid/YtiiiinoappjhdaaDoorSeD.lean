/-
  Texts that the proof of the law stands on: W, V, O2, G4, Y18, Y44, Y31, Y45.
-/
import Derived.Test.YtiiiinoappjhdaaDoorSeC
import Derived.WalkKit
import Derived.ProofKit
import Derived.OpenShut
import Derived.Deep.DeepHandedRow
import Derived.Deep.DeepWitnessRowRef
import Derived.Lib.LaidTab
import Derived.Lib.LaidIn
import Derived.Lib.ItoaNum
import Derived.WideKeyArgs
import Derived.Test.YtiiiinoappjhdaaDoorRows
import Derived.Deep.CutRange
import Derived.Deep.RegionHeld3
import Derived.Deep.LoopGhost
namespace Go.Proofs.YtiiiinoappjhdaaDoor
open Go.ChangeShapes Go.WideShapes Go.ChangeAt Go.RowKit
theorem own : ownKnob Tryd.prog.godebug = none := by kernel_rfl
theorem gTab : Tryd.prog.globalNamed "math/bits.deBruijn64tab" = some 0 := by kernel_rfl
theorem gTabType : (Tryd.prog.globals[0]?).map (·.type) = some 101 := by kernel_rfl
theorem cellsTab : Tryd.prog.cellsOf 101 = 64 := by kernel_rfl
theorem cellsU8 : Tryd.prog.cellsOf 5 = 1 := by kernel_rfl
section
variable {H : Type} {enc : TypeId × Value → H}
/-- All arguments read as they did. -/
theorem TrodAll_stays {P : Program} (hl : laidOutB P = true) {W W' : World} {sp : Nat → Bool} : ∀ {ts : List TypeId} {vs : List Value} {ds : List (DataW H)} {ps : List MemPlace},
    (∀ t ∈ ts, P.readableRec t = true ∧ t < P.types.size) → DataW.TrodAll enc P W 0 (fun _ => true) true ts vs ds ps → (∀ x ∈ ps, W.sameAt W' x) → (∀ x ∈ ps, sp x.block = true) → DataW.TrodAll enc P W' 0 sp true ts vs ds ps
  | [], vs, ds, ps, _, h, _, _ => by cases vs <;> cases ds <;> simp_all [DataW.TrodAll]
  | t :: ts, vs, ds, ps, ht, h, hs, hsp => by
    obtain ⟨v, vs', d, ds', p, q, rfl, rfl, rfl, h0, r0⟩ := trodAll_cons h
    exact trodAll_cons_mk (WideElems.Trod_stays hl (ht t (by simp)).1 (ht t (by simp)).2 h0 (fun x hx => hs x (List.mem_append_left _ hx)) (fun x hx => hsp x (List.mem_append_left _ hx)))
      (TrodAll_stays hl (fun u hu => ht u (by simp [hu])) r0 (fun x hx => hs x (List.mem_append_right _ hx)) (fun x hx => hsp x (List.mem_append_right _ hx)))
set_option maxRecDepth 100000 in
/-- An automaton that came in. -/
theorem auto_of {W : World} {base : Nat} {v : Value} {d : DataW H} {p : List MemPlace} (hv : Value.okWide Tryd.prog W .any base 24 v) (h : DataW.Trod enc Tryd.prog W 0 (fun _ => true) true 24 v d p)
    (hw : ∀ n ∈ d.weights Tryd.prog 24, n ≤ reachBytes) : ∃ c m, v = .agg #[c] ∧ Rows W c m := by
  obtain ⟨cs, rfl, hs⟩ := okWide_struct Tryd.underlying24 hv
  rw [cells_auto] at hs
  obtain ⟨c, rfl⟩ : ∃ c, cs = #[c] := by
    match cs, hs with
    | ⟨[c]⟩, _ => exact ⟨c, rfl⟩
  obtain ⟨fuel, hf⟩ := h
  obtain ⟨y0, n, hx, _, h0⟩ := trod_struct1 Tryd.underlying24 hf
  have hd : d = .agg [y0.1] := (Prod.mk.inj hx).1
  subst hd
  obtain ⟨m, hm⟩ := rows_of_trod (fuel := n) (c := c) (x := y0) h0 (fun k hk => hw k (by
    rw [DataW.weights, Tryd.underlying24]
    simp only [List.map_cons, List.map_nil, DataW.weightsEach, List.append_nil]
    exact hk))
  exact ⟨c, m, rfl, hm⟩
theorem weight_of {P : Program} {ts : List TypeId} {ds : List (DataW H)} (h : (DataW.weightsEach P ts ds).all (· ≤ reachBytes) = true) {j : Nat} {t : TypeId} {d : DataW H} (ht : ts[j]? = some t) (hd : ds[j]? = some d) : ∀ n ∈ d.weights P t, n ≤ reachBytes := by
  intro n hn
  have := List.all_eq_true.1 h _ (DataW.weights_mem_each ht hd n hn)
  simpa using this
end
end Go.Proofs.YtiiiinoappjhdaaDoor
namespace Go.Proofs.YtiiiinoappjhdaaDoor
open Go.ChangeShapes Go.WideShapes Go.ChangeAt Go.RowKit
noncomputable def laidWorld2 (os : Os) : World :=
  let w0 := World.holding Tryd.prog os ⟨#[], #[], []⟩
  let put (h : Array Obj) (g : Nat) (cs : Array Value) : Array Obj := h.modify g fun
    | .cells _ t frozen => .cells cs t frozen
    | o => o
  { w0 with heap := put w0.heap 0 (Lib.deBruijn64tab.map fun z : Nat => Value.int .u8 z).toArray }
set_option maxRecDepth 1000000 in
theorem laid_met2 (os : Os) (args : Array Value) : laidMet Tryd.prog Rows.shortFindsRow.laid ((laidWorld2 os).forCall (fun _ _ => 0) ⟨#[], args, []⟩).memory :=
  (LaidIn.of_run (l := Rows.shortFindsRow.laid) [0] 8 (by kernel_rfl) (by kernel_rfl) (by kernel_rfl) (by kernel_rfl)).met
/-- The table of the least bit, out of the list. -/
theorem tab_of2 {W : World} (h : laidMetH Tryd.prog Rows.shortFindsRow.laid W) : Tab W := by
  have h1 : laidMet Tryd.prog Rows.shortFindsRow.laid W := h
  have h2 : laidMet Tryd.prog (("math/bits.deBruijn64tab", Lib.tabData .u8 (Lib.deBruijn64tab.map fun x : Nat => (x : Int))) :: Rows.shortFindsRow.laid.drop 1) W := h1
  have h3 := Lib.tabIs_of_head gTab gTabType Tryd.underlying101 Tryd.underlying5 cellsU8 cellsTab h2
  intro j hj
  have h4 := h3.cell gTab j (by rw [List.length_map]; exact hj)
  rw [h4]
  have e : j < Lib.deBruijn64tab.length := hj
  simp [List.getD_eq_getElem?_getD, List.getElem?_eq_getElem e]
end Go.Proofs.YtiiiinoappjhdaaDoor
namespace Go.Proofs.YtiiiinoappjhdaaDoor
open Go.RowKit Go.Deep Go.ChangeShapes Go.WideShapes
/-- A slice of slices of ints, where a nil row has no room. -/
def RowsN (w : World) (v : Value) (m : List (List Int)) : Prop :=
  ∃ A cap, v = .slice A m.length cap ∧ m.length ≤ big ∧ ∀ i, i < m.length → ∃ b off Ar c, A = some ⟨b, off, none⟩ ∧ w.cell? ⟨b, off + i, none⟩ = some (.slice Ar (m.getD i []).length c) ∧ Ints w (.slice Ar (m.getD i []).length c) (m.getD i []) ∧ (Ar = none → c = 0)
theorem RowsN.rows {w : World} {v : Value} {m : List (List Int)} (h : RowsN w v m) : Rows w v m := by
  obtain ⟨A, cap, hv, hl, hc⟩ := h
  refine ⟨A, cap, hv, hl, fun i hi => ?_⟩
  obtain ⟨b, off, Ar, c, hA, hcell, hr, _⟩ := hc i hi
  exact ⟨b, off, _, hA, hcell, hr⟩
theorem RowsN.below {w w' : World} {v : Value} {m : List (List Int)} (h : RowsN w v m) (hb : Below w.heap.size w w') : RowsN w' v m := by
  obtain ⟨A, cap, hv, hl, hc⟩ := h
  refine ⟨A, cap, hv, hl, fun i hi => ?_⟩
  obtain ⟨b, off, Ar, c, hA, hcell, hr, hn⟩ := hc i hi
  exact ⟨b, off, Ar, c, hA, (hb.cell (p := ⟨b, off + i, none⟩) (World.block_lt_of_cell? _ _ hcell)).trans hcell, hr.below hb, hn⟩
section
variable {H : Type} {enc : TypeId × Value → H} {W : World} {base : Nat}
end
end Go.Proofs.YtiiiinoappjhdaaDoor
namespace Go.Proofs.YtiiiinoappjhdaaDoor
open Go.RowKit Go.Shelf
/-- Whether the one list of numbers comes before the other of as many. -/
def befB : List Int → List Int → Bool
  | x :: a, y :: b => if x = y then befB a b else decide (x < y)
  | _, _ => false
theorem befB_eq : ∀ l : List Int, befB l l = false
  | [] => rfl
  | x :: a => by rw [befB, if_pos rfl]; exact befB_eq a
theorem befB_lex : ∀ (l m : List Int), befB l m = true → lexLt l m
  | [], _, h => by simp [befB] at h
  | _ :: _, [], h => by simp [befB] at h
  | x :: a, y :: b, h => by
    by_cases e : x = y
    · rw [befB, if_pos e] at h
      exact .inr ⟨e, befB_lex a b h⟩
    · rw [befB, if_neg e] at h
      exact .inl (of_decide_eq_true h)
/-- A list's beginning. -/
theorem Ints.take {w : World} {A : Option Addr} {c : Nat} {l : List Int} (h : Ints w (.slice A l.length c) l) {k : Nat} (hk : k ≤ l.length) (d : Nat) : Ints w (.slice A k d) (l.take k) := by
  obtain ⟨A', c', hv, hl, hc⟩ := h
  simp only [Value.slice.injEq] at hv
  obtain ⟨rfl, -, rfl⟩ := hv
  have hlk : (l.take k).length = k := by simp; omega
  refine ⟨A, d, by rw [hlk], by omega, fun i hi => ?_⟩
  obtain ⟨b, off, hA, hcell⟩ := hc i (by omega)
  refine ⟨b, off, hA, ?_⟩
  rw [hcell]
  congr 2
  simp only [List.getD_eq_getElem?_getD, List.getElem?_take]
  rw [if_pos (by omega)]
end Go.Proofs.YtiiiinoappjhdaaDoor
namespace Go.Proofs.YtiiiinoappjhdaaDoor
open Go.RowKit Go.Shelf
/-- What Shortest returns beside what Rank does. -/
def ShortAs (r : Nat) (L : List Int) (c : Int) (l : List Int) : Prop := (r = 1 ∧ c = 0 ∧ l = L) ∨ (r ≠ 1 ∧ c = 4 ∧ l = [])
theorem Shortest_as (v : Value) (m : List (List Int)) (i0 : Nat) (c : Int) (l : List Int) (w : World) (hT : Tab w) (h : Rows w v m) (hv : validM m = true) (h12 : m.length ≤ 12) (hi0 : i0 < (imgF m).length)
    (hmin : ∀ j, j < (imgF m).length → szB (imgF m) i0 ≤ szB (imgF m) j) (hfirst : ∀ j, j < i0 → szB (imgF m) i0 < szB (imgF m) j) (hc : Hid (ShortAs (szB (imgF m) i0) (wordB (imgF m) i0) c l)) :
    Calls Tryd.prog 11 #[.agg #[v]] w fun e w' => ∃ A k, e = .returned (.tuple #[.slice A l.length k, .int .i64 c]) ∧ Ints w' (.slice A l.length k) l ∧ Below w.heap.size w w' := by
  refine (Shortest_ok v m w hT h hv h12).mono ?_
  rintro e w1 ⟨⟨i, r, hi, hs, hn, rfl, ho⟩ | ⟨hn, rfl⟩, hb⟩
  · have h1 := hmin i hi
    have h2 := szB_pos hv h12 hi0
    have hii : i = i0 := by
      rcases Nat.lt_trichotomy i i0 with e | e | e
      · have := hfirst i e; omega
      · exact e
      · have := hn i0 e; omega
    subst hii
    rcases hc.out with ⟨_, rfl, rfl⟩ | ⟨h3, _, _⟩
    · have hl := imgF_len hv h12 hi
      obtain ⟨A, k, rfl⟩ := ownsRow_slice ho
      exact ⟨A, k, rfl, Ints.of_own ho (by unfold big; omega), hb⟩
    · omega
  · rcases hc.out with ⟨h3, _, _⟩ | ⟨_, rfl, rfl⟩
    · exact absurd h3 (hn i0 hi0)
    · exact ⟨none, 0, rfl, Ints.nil _, hb⟩
theorem Rank_as (v : Value) (m : List (List Int)) (r : Nat) (L : List Int) (w : World) (hT : Tab w) (h : Rows w v m) (hv : validM m = true) (h12 : m.length ≤ 12) (hr : Hid ((rkS (imgF m) m.length (imgF m).length).1 = r)) (hL : Hid ((rkS (imgF m) m.length (imgF m).length).2 = L)) (hl : L.length ≤ 4096) :
    Calls Tryd.prog 17 #[.agg #[v]] w fun e w' => ∃ A k, e = .returned (.tuple #[.int .i64 (r : Nat), .slice A L.length k, .int .i64 0]) ∧ Ints w' (.slice A L.length k) L ∧ Below w.heap.size w w' := by
  refine (Rank_ok v m w hT h hv h12).mono ?_
  rintro e w1 ⟨rr, rfl, ho, hb⟩
  rw [hr.out, hL.out] at *
  obtain ⟨A, k, rfl⟩ := ownsRow_slice ho
  exact ⟨A, k, rfl, Ints.of_own ho (by unfold big; omega), hb⟩
/-- Any word leads to no fewer states than the rank; if to as many, then it is no shorter than the least word, nor before it. -/
theorem least_ok {m : List (List Int)} (hv : validM m = true) (h12 : m.length ≤ 12) {i0 : Nat} (hi0 : i0 < (imgF m).length) (hmin : ∀ j, j < (imgF m).length → szB (imgF m) i0 ≤ szB (imgF m) j) (hfirst : ∀ j, j < i0 → szB (imgF m) i0 < szB (imgF m) j)
    {ul : List Int} (hu : ul.all (inB 0 ((letters m : Int) - 1)) = true) : szB (imgF m) i0 ≤ (imageM m (allM m.length) ul).length ∧
      (szB (imgF m) i0 < (imageM m (allM m.length) ul).length ∨ (wordB (imgF m) i0).length < ul.length ∨ (ul.length = (wordB (imgF m) i0).length ∧ befB ul (wordB (imgF m) i0) = false)) := by
  obtain ⟨j, hj, hp, hle⟩ := imgF_has hv hu
  have hs := szB_image hv h12 hj hp
  rw [hs]
  have h1 := hmin j hj
  refine ⟨h1, ?_⟩
  by_cases h2 : szB (imgF m) i0 < szB (imgF m) j
  · exact .inl h2
  · right
    have hij : i0 ≤ j := Nat.le_of_not_lt fun hh => by have := hfirst j hh; omega
    have hSL : SLe (wordB (imgF m) i0) ul := by
      rcases Nat.lt_or_ge i0 j with e | e
      · exact .inr ((imgF_rise hv e hj).le hle)
      · obtain rfl : i0 = j := by omega
        exact hle
    rcases hSL with e | e | ⟨e, hlex⟩
    · right
      rw [e]; exact ⟨rfl, befB_eq _⟩
    · exact .inl e
    · right
      refine ⟨e.symm, ?_⟩
      cases hb : befB ul (wordB (imgF m) i0) with
      | false => rfl
      | true => exact absurd (lexLt.trans hlex (befB_lex _ _ hb)) (lexLt_irrefl _)
end Go.Proofs.YtiiiinoappjhdaaDoor
namespace Go.Proofs.YtiiiinoappjhdaaDoor
open Go.RowKit Go.Shelf
/-- The set is where some word leads from all states. -/
def RS (m : List (List Int)) (S : Nat) : Prop := S < 2 ^ m.length ∧ ∃ u : List Int, u.all (inB 0 ((letters m : Int) - 1)) = true ∧ imgWord m (2 ^ m.length - 1) u = S
theorem RS.start (m : List (List Int)) : RS m (2 ^ m.length - 1) := ⟨full_lt m, [], rfl, rfl⟩
theorem RS.word {m : List (List Int)} (hv : validM m = true) {S : Nat} (h : RS m S) {w : List Int} (hw : w.all (inB 0 ((letters m : Int) - 1)) = true) : RS m (imgWord m S w) := by
  obtain ⟨h1, u, h2, h3⟩ := h
  refine ⟨imgWord_lt hv w S h1 hw, u ++ w, by rw [List.all_append, h2, hw]; rfl, by rw [imgWord_append, h3]⟩
/-- No two states of the set are merged. -/
def NoMg (m : List (List Int)) (S : Nat) : Prop := ∀ p q, p ∈ elems S → q ∈ elems S → p ≠ q → mlen m p q = -1
theorem mem_of_testBit {S n s : Nat} (hS : S < 2 ^ n) (hn : n ≤ 64) : s ∈ elems S ↔ S.testBit s = true := by
  rw [mem_elems]
  constructor
  · exact fun h => h.2
  · refine fun h => ⟨?_, h⟩
    rcases Nat.lt_or_ge s 64 with h1 | h1
    · exact h1
    · have : 2 ^ n ≤ 2 ^ s := Nat.pow_le_pow_right (by decide) (by omega)
      rw [Nat.testBit_lt_two_pow (by omega)] at h; cases h
theorem mem_img {m : List (List Int)} (hv : validM m = true) {S : Nat} (hS : S < 2 ^ m.length) {w : List Int} (hw : w.all (inB 0 ((letters m : Int) - 1)) = true) (t : Nat) : t ∈ elems (imgWord m S w) ↔ ∃ s, s ∈ elems S ∧ runM m s w = t := by
  have hn : m.length ≤ 64 := by have := (valid_parts hv).2.1; omega
  rw [mem_of_testBit (imgWord_lt hv w S hS hw) hn, imgWord_mem hv w S t hS hw]
  constructor
  · rintro ⟨q, _, h2, h3⟩; exact ⟨q, (mem_of_testBit hS hn).2 h2, h3⟩
  · rintro ⟨q, h1, h3⟩
    exact ⟨q, elems_lt hS h1, (mem_of_testBit hS hn).1 h1, h3⟩
theorem rank_size {m : List (List Int)} (hv : validM m = true) (h12 : m.length ≤ 12) {i0 : Nat} (hi0 : i0 < (imgF m).length) (hmin : ∀ j, j < (imgF m).length → szB (imgF m) i0 ≤ szB (imgF m) j) {S : Nat} (hS : RS m S) (hno : NoMg m S) : (elems S).length = szB (imgF m) i0 := by
  obtain ⟨h1, u, h2, h3⟩ := hS
  obtain ⟨hw, hp⟩ := imgF_word hv hi0
  have hfull : ∀ s, s < m.length → s ∈ elems (2 ^ m.length - 1) := fun s hs => by rw [elems_below m.length (by omega)]; exact List.mem_range.2 hs
  apply Nat.le_antisymm
  · have hsz : szB (imgF m) i0 = (elems (imgWord m (2 ^ m.length - 1) (wordB (imgF m) i0))).length := by unfold szB; rw [hp, Int.toNat_natCast]
    rw [hsz]
    have hA : ((elems S).map fun s => runM m s (wordB (imgF m) i0)).Nodup := by
      rw [List.nodup_iff_pairwise_ne, List.pairwise_map]
      have hn := elems_nodup S
      rw [List.nodup_iff_pairwise_ne] at hn
      refine List.Pairwise.imp_of_mem ?_ hn
      intro a b ha hb hab e
      have hm := hno a b ha hb hab
      rcases mlen_spec hv (elems_lt h1 ha) (elems_lt h1 hb) with ⟨_, k2⟩ | ⟨j, _, k2, _⟩
      · exact k2 _ ⟨_, hw, rfl, e⟩
      · omega
    have := nodup_sub hA (B := elems (imgWord m (2 ^ m.length - 1) (wordB (imgF m) i0))) (fun x hx => by
      obtain ⟨s, hs, rfl⟩ := List.mem_map.1 hx
      exact (mem_img hv (full_lt m) hw _).2 ⟨s, hfull s (elems_lt h1 hs), rfl⟩)
    simpa using this
  · obtain ⟨j, hj, hpj, -⟩ := imgF_has hv h2
    have := hmin j hj
    have e : szB (imgF m) j = (elems S).length := by unfold szB; rw [hpj, Int.toNat_natCast, h3]
    omega
theorem merge_less {m : List (List Int)} (hv : validM m = true) {S : Nat} (hS : S < 2 ^ m.length) {w : List Int} (hw : w.all (inB 0 ((letters m : Int) - 1)) = true) {p q : Nat} (hp : p ∈ elems S) (hq : q ∈ elems S) (hpq : p ≠ q) (he : runM m p w = runM m q w) : (elems (imgWord m S w)).length < (elems S).length :=
  image_less (elems_nodup _) (fun x hx => (mem_img hv hS hw x).1 hx) hp hq hpq he
theorem setM_elems (S : Nat) : (intsOf (elems S)).length = (elems S).length := by simp [intsOf]
theorem get_intsOf {l : List Nat} {i : Nat} (h : i < l.length) : (intsOf l).getD i 0 = ((l.getD i 0 : Nat) : Int) := by
  simp [intsOf, List.getD_eq_getElem?_getD, List.getElem?_map, List.getElem?_eq_getElem h]
theorem getD_mem {l : List Nat} {i : Nat} (h : i < l.length) : l.getD i 0 ∈ l := by
  simp [List.getD_eq_getElem?_getD, List.getElem?_eq_getElem h]
theorem getD_ne {S i k : Nat} (hk : k < i) (hi : i < (elems S).length) : (elems S).getD i 0 ≠ (elems S).getD k 0 := by
  have hn := elems_nodup S
  intro e
  simp only [List.getD_eq_getElem?_getD, List.getElem?_eq_getElem hi, List.getElem?_eq_getElem (show k < (elems S).length by omega), Option.getD_some] at e
  have := (List.getElem_inj hn).1 e
  omega
/-- No pair of the first i states is merged. -/
def NoTo (m : List (List Int)) (S i : Nat) : Prop := ∀ a b, b < a → a < i → mlen m ((elems S).getD a 0) ((elems S).getD b 0) = -1
theorem NoTo.all {m : List (List Int)} (hv : validM m = true) {S : Nat} (hS : S < 2 ^ m.length) (h : NoTo m S (elems S).length) : NoMg m S := by
  intro p q hp hq hpq
  obtain ⟨i, hi, rfl⟩ := List.mem_iff_getElem.1 hp
  obtain ⟨k, hk, rfl⟩ := List.mem_iff_getElem.1 hq
  have e : ∀ a (ha : a < (elems S).length), (elems S).getD a 0 = (elems S)[a] := fun a ha => by simp [List.getD_eq_getElem?_getD, List.getElem?_eq_getElem ha]
  rcases Nat.lt_trichotomy i k with h1 | h1 | h1
  · have := h k i h1 hk
    rw [e, e] at this
    rw [mlen_symm hv (elems_lt hS hp) (elems_lt hS hq)]; exact this
  · subst h1; exact absurd rfl hpq
  · have := h i k h1 hi
    rw [e, e] at this
    exact this
/-- Where the loops over pairs stand. -/
def RkAt (m : List (List Int)) (S : Nat) (b : Bool) (S' : Nat) (P : Prop) : Prop := RS m S' ∧ (b = false → S' = S ∧ P) ∧ (b = true → (elems S').length < (elems S).length)
set_option maxRecDepth 100000 in
set_option maxHeartbeats 16000000 in
theorem rRank_any (v : Value) (m : List (List Int)) (r : Nat) (w : World) (h : Rows w v m) (hv : validM m = true) (h12 : m.length ≤ 12) (hr : ∀ S, RS m S → NoMg m S → (elems S).length = r) :
    Calls Tryd.prog 18 #[.agg #[v]] w fun e w' => e = .returned (.int .i64 r) ∧ Below w.heap.size w w' := by
  obtain ⟨p1, p2, p3, p4, -⟩ := valid_parts hv
  obtain ⟨A, cap, rfl, hml, -⟩ := id h
  have hX := bal (Below.refl _ w) (.cells #[.slice A m.length cap] 24)
  have hbx := (Boxed.new w 24 (.slice A m.length cap)).cell
  have Hr := hid hr
  clear hr
  go_enter Tryd.func18, Tryd.ntmps18
  go_wp2_with fail
  have hrX := h.below hX
  generalize w.alloc (.cells #[.slice A m.length cap] 24) = X at *
  refine (rTable_any _ m _ hrX hv).mono ?_
  rintro e w2 ⟨V, B, rfl, hT, h2⟩
  obtain ⟨g, gc, rfl⟩ := ownsRow_pos' hT.outer p1
  have c2 := (h2.cell (p := ⟨w.heap.size, 0, none⟩) (World.block_lt_of_cell? _ _ hbx)).trans hbx
  have HT := hid (fun (w' : World) (hb : Below w2.heap.size w2 w') => hT.below hb)
  have HB2 := btr hX h2
  have hr2 := hrX.below h2
  clear hT h2 hbx
  go_wp2_with fail
  refine (rAll_any m.length _ (by omega)).mono ?_
  rintro e w3 ⟨ra, rfl, ia, h3⟩
  have hall : intsOf (elems (2 ^ m.length - 1)) = allM m.length := by
    rw [elems_below m.length (by omega)]
    unfold intsOf allM pick
    rw [List.filter_eq_self.2 (fun _ _ => rfl)]
  rw [← hall] at ia
  have hpow := Nat.two_pow_pos m.length
  have Hia := hid ia
  clear ia hall
  go_wp2_with fail
  go_loopg [4, 5] (2 * 64 + 2) (fun k sv mv wr => ∃ (S : Nat) (b : Bool), mv = .bool b ∧ RS m S ∧ Ints wr sv (intsOf (elems S)) ∧ 2 * (elems S).length + b.toNat ≤ k ∧ (b = false → NoMg m S) ∧ Below w2.heap.size w2 wr)
  case atStart => exact ⟨2 ^ m.length - 1, true, rfl, RS.start m, Hia.out, by have := elems_length (2 ^ m.length - 1); simp; omega, fun h => (by cases h), h3⟩
  case round =>
    clear Hia h3
    obtain ⟨S, b, rfl, hRS, hI, hk, hno, hB⟩ := hrel
    have hRSl := hRS.1
    have HRS := hid hRS
    have Hk := hid hk
    have hSl := elems_length S
    cases b with
    | false =>
      have hlen := Hr.out S hRS (hno rfl)
      obtain ⟨A4, c4, rfl⟩ : ∃ A c, u4 = .slice A (elems S).length c := by obtain ⟨A4, c4, hv4, _⟩ := id hI; exact ⟨A4, c4, by rw [hv4, setM_elems]⟩
      rw [hlen]
      clear hno hRS hI hk
      go_wp2_with fail
      go_ret
      exact ⟨rfl, btr HB2 hB⟩
    | true =>
      clear hno hRS hk
      have HI := hid hI
      clear hI
      have hb0 : (true).toNat = 1 := rfl
      obtain ⟨wo, rfl⟩ : ∃ wo : World, wo = wr := ⟨_, rfl⟩
      go_wp2_with fail
      go_loopw [4, 5, 6] (fun sv mv iv wr => ∃ (S' i : Nat) (b : Bool), i ≤ (elems S).length ∧ iv = .int .i64 i ∧ mv = .bool b ∧ RkAt m S b S' (NoTo m S i) ∧ Ints wr sv (intsOf (elems S')) ∧ Below w2.heap.size w2 wr) (fun _ _ iv _ => (elems S).length - (intOf iv).toNat)
      case atStart => exact ⟨S, 0, false, Nat.zero_le _, rfl, rfl, ⟨HRS.out, fun _ => ⟨rfl, fun a b _ h => by omega⟩, fun h => (by cases h)⟩, HI.out, hB⟩
      case round =>
        clear HI hB
        obtain ⟨S', i, b, hi, rfl, rfl, hat, hI, hB⟩ := hrel
        obtain ⟨hRS', hf, ht⟩ := hat
        have hS'l := elems_length S'
        obtain ⟨A4, c4, rfl⟩ : ∃ A c, u4 = .slice A (elems S').length c := by obtain ⟨A4, c4, hv4, _⟩ := id hI; exact ⟨A4, c4, by rw [hv4, setM_elems]⟩
        have HI := hid hI
        have HRS' := hid hRS'
        clear hI hRS'
        cases b with
        | true =>
          have hless := ht rfl
          clear hf ht
          by_cases hil : i < (elems S').length
          · have d1 : decide ((i : Int) < (elems S').length) = true := by simp; omega
            go_wp2_with fail
            go_roundg (2 * (elems S').length + 1)
            case measure => have := Hk.out; simp at this; omega
            case rel => exact ⟨S', true, rfl, HRS'.out, HI.out, by simp, fun h => (by cases h), hB⟩
          · have d1 : decide ((i : Int) < (elems S').length) = false := by simp; omega
            go_wp2_with fail
            go_roundg (2 * (elems S').length + 1)
            case measure => have := Hk.out; simp at this; omega
            case rel => exact ⟨S', true, rfl, HRS'.out, HI.out, by simp, fun h => (by cases h), hB⟩
        | false =>
          obtain ⟨rfl, hnt⟩ := hf rfl
          have Hnt := hid hnt
          clear hf ht hnt
          by_cases hil : i < (elems S').length
          · have d1 : decide ((i : Int) < (elems S').length) = true := by simp; omega
            have d1n : decide (i < (elems S').length) = true := decide_eq_true hil
            obtain ⟨wl, rfl⟩ : ∃ wl : World, wl = wr := ⟨_, rfl⟩
            go_wp2_with fail
            go_loopw [4, 5, 7] (fun sv mv kv wr => ∃ (S1 k : Nat) (b : Bool), k ≤ i ∧ kv = .int .i64 k ∧ mv = .bool b ∧ RkAt m S' b S1 (∀ k1, k1 < k → mlen m ((elems S').getD i 0) ((elems S').getD k1 0) = -1) ∧ Ints wr sv (intsOf (elems S1)) ∧ Below w2.heap.size w2 wr) (fun _ _ kv _ => i - (intOf kv).toNat)
            case atStart => exact ⟨S', 0, false, Nat.zero_le _, rfl, rfl, ⟨HRS'.out, fun _ => ⟨rfl, fun k1 h => by omega⟩, fun h => (by cases h)⟩, HI.out, hB⟩
            case round =>
              clear HI hB
              obtain ⟨S1, k, b, hki, rfl, rfl, hat, hI, hB⟩ := hrel
              obtain ⟨hRS1, hf, ht⟩ := hat
              have hS1l := elems_length S1
              obtain ⟨A4, c4, rfl⟩ : ∃ A c, u4 = .slice A (elems S1).length c := by obtain ⟨A4, c4, hv4, _⟩ := id hI; exact ⟨A4, c4, by rw [hv4, setM_elems]⟩
              have HI := hid hI
              have HRS1 := hid hRS1
              clear hI hRS1
              cases b with
              | true =>
                have hless := ht rfl
                clear hf ht
                by_cases hkl : k < i
                · have e1 : decide ((k : Int) < i) = true := by simp; omega
                  go_wp2_with fail
                  go_roundw
                  case rel => exact ⟨S1, i + 1, true, by omega, by go_num, rfl, ⟨HRS1.out, fun h => (by cases h), fun _ => hless⟩, HI.out, hB⟩
                  case measure => simp [intOf]; omega
                · have e1 : decide ((k : Int) < i) = false := by simp; omega
                  go_wp2_with fail
                  go_roundw
                  case rel => exact ⟨S1, i + 1, true, by omega, by go_num, rfl, ⟨HRS1.out, fun h => (by cases h), fun _ => hless⟩, HI.out, hB⟩
                  case measure => simp [intOf]; omega
              | false =>
                obtain ⟨rfl, hnk⟩ := hf rfl
                have Hnk := hid hnk
                clear hf ht hnk
                by_cases hkl : k < i
                · have e1 : decide ((k : Int) < i) = true := by simp; omega
                  have e1n : decide (k < i) = true := decide_eq_true hkl
                  have e2 : (k : Int) < (elems S1).length := by omega
                  have e3 : (i : Int) < (elems S1).length := by omega
                  obtain ⟨Aq, cq, hvq, -, hcq⟩ := id HI.out
                  rw [setM_elems] at hvq hcq
                  simp only [Value.slice.injEq, true_and] at hvq
                  obtain ⟨rfl, rfl⟩ := hvq
                  obtain ⟨bq, oq, hA, cell1⟩ := hcq i (by omega)
                  subst hA
                  obtain ⟨bq', oq', hA', cell2⟩ := hcq k (by omega)
                  cases hA'
                  rw [get_intsOf (by omega)] at cell1 cell2
                  have hmp := getD_mem (l := elems S1) (i := i) (by omega)
                  have hmq := getD_mem (l := elems S1) (i := k) (by omega)
                  have hne := getD_ne hkl hil
                  have hnk2 := hid (fun (h : mlen m ((elems S1).getD i 0) ((elems S1).getD k 0) = -1) (k1 : Nat) (h1 : k1 < k + 1) => show mlen m ((elems S1).getD i 0) ((elems S1).getD k1 0) = -1 from by
                    by_cases e : k1 = k
                    · subst e; exact h
                    · exact Hnk.out k1 (by omega))
                  obtain ⟨p, hp⟩ : ∃ p, (elems S1).getD i 0 = p := ⟨_, rfl⟩
                  obtain ⟨q, hq⟩ : ∃ q, (elems S1).getD k 0 = q := ⟨_, rfl⟩
                  rw [hp] at cell1 hmp hne
                  rw [hq] at cell2 hmq hne
                  have hpl := elems_lt HRS1.out.1 hmp
                  have hql := elems_lt HRS1.out.1 hmq
                  have cb := (hB.cell (p := ⟨w.heap.size, 0, none⟩) (World.block_lt_of_cell? _ _ c2)).trans c2
                  have Hp := hid hp
                  have Hq := hid hq
                  have Hne := hid hne
                  clear hcq hp hq hne
                  have keep := hid (fun (w' : World) (hb : Below wr.heap.size wr w') => show Below wr.heap.size wr w' ∧ w'.cell? ⟨w.heap.size, 0, none⟩ = some (.slice A m.length cap) ∧ w'.cell? ⟨bq, oq + i, none⟩ = some (.int .i64 (p : Nat)) ∧ w'.cell? ⟨bq, oq + k, none⟩ = some (.int .i64 (q : Nat)) from
                    ⟨hb, (hb.cell (p := ⟨w.heap.size, 0, none⟩) (World.block_lt_of_cell? _ _ cb)).trans cb, (hb.cell (p := ⟨bq, oq + i, none⟩) (World.block_lt_of_cell? _ _ cell1)).trans cell1, (hb.cell (p := ⟨bq, oq + k, none⟩) (World.block_lt_of_cell? _ _ cell2)).trans cell2⟩)
                  rcases mlen_spec hv hpl hql with ⟨hm1, -⟩ | ⟨dd, hdl, hm1, hmd⟩
                  · have hcall := hid (fun (w' : World) (hb : Below wr.heap.size wr w') => rWord_no (.slice A m.length cap) m p q _ g gc B w' (hr2.below (btr hB hb)) hv hpl hql (HT.out _ (btr hB hb)) hm1)
                    have Hm1 := hid hm1
                    clear hm1
                    go_wp2_with fail
                    go_region_held3 (fun w' => Below wr.heap.size wr w' ∧ w'.cell? ⟨w.heap.size, 0, none⟩ = some (.slice A m.length cap) ∧ w'.cell? ⟨bq, oq + i, none⟩ = some (.int .i64 (p : Nat)) ∧ w'.cell? ⟨bq, oq + k, none⟩ = some (.int .i64 (q : Nat))) (exact keep.out _ (by first | exact below_dr wr 1 | assumption)) (first
                      | (go_at_call 44; go_must (refine (hcall.out _ (by first | exact below_dr wr 1 | exact Below.refl _ _)).mono ?_; rintro e y1 ⟨rfl, hy1⟩; have kA : Below wr.heap.size wr y1 := btr (by first | exact below_dr wr 1 | exact Below.refl _ _) hy1)))
                    have HI1 := hid (HI.out.below kA)
                    go_wp2_with fail
                    go_roundw
                    case rel => exact ⟨S1, k + 1, false, by omega, by go_num, rfl, ⟨HRS1.out, fun _ => ⟨rfl, hnk2.out (by rw [Hp.out, Hq.out]; exact Hm1.out)⟩, fun h => (by cases h)⟩, HI1.out, btr hB kA⟩
                    case measure => simp [intOf]; omega
                  · obtain ⟨mw1, mw2, mw3⟩ := mW_ok hv dd p q hpl hql hmd
                    have hmm : m.length * m.length ≤ 144 := Nat.mul_le_mul (show m.length ≤ 12 by omega) (show m.length ≤ 12 by omega)
                    have hww : isWordM m (mW m dd p q) = true := by
                      simp only [isWordM, Bool.and_eq_true, decide_eq_true_eq]
                      exact ⟨by omega, mw1⟩
                    have hless := merge_less hv HRS1.out.1 mw1 hmp hmq Hne.out mw3
                    have hRSn := HRS1.out.word hv mw1
                    have himg : imageM m (intsOf (elems S1)) (mW m dd p q) = intsOf (elems (imgWord m S1 (mW m dd p q))) := by
                      unfold imageM
                      rw [ofList_elems (Nat.lt_of_lt_of_le HRS1.out.1 (Nat.pow_le_pow_right (by decide) (by omega)))]
                    have hcall := hid (fun (w' : World) (hb : Below wr.heap.size wr w') => rWord_yes (.slice A m.length cap) m p q dd _ g gc B w' (hr2.below (btr hB hb)) hv hpl hql (HT.out _ (btr hB hb)) hmd)
                    have Himg := hid himg
                    have Hless := hid hless
                    have HRSn := hid hRSn
                    have Hww := hid hww
                    have hset := isSetM_elems (m := m) HRS1.out.1
                    have Hset := hid hset
                    have hl40 : (mW m dd p q).length = dd := mw2
                    clear mw1 mw3 himg hless hRSn hww hset hmd
                    generalize mW m dd p q = W at *
                    subst hl40
                    go_wp2_with fail
                    go_region_held3 (fun w' => Below wr.heap.size wr w' ∧ w'.cell? ⟨w.heap.size, 0, none⟩ = some (.slice A m.length cap) ∧ w'.cell? ⟨bq, oq + i, none⟩ = some (.int .i64 (p : Nat)) ∧ w'.cell? ⟨bq, oq + k, none⟩ = some (.int .i64 (q : Nat))) (exact keep.out _ (by first | exact below_dr wr 1 | assumption)) (first
                      | (go_at_call 44; go_must (refine (hcall.out _ (by first | exact below_dr wr 1 | exact Below.refl _ _)).mono ?_; rintro e y1 ⟨rw1, rfl, how, hy1⟩; have kA : Below wr.heap.size wr y1 := btr (by first | exact below_dr wr 1 | exact Below.refl _ _) hy1)))
                    have hIw := Ints.of_own how (by unfold big; omega)
                    have cb1 := (keep.out _ kA).2.1
                    have HI1 := HI.out.below kA
                    have hB1 := btr hB kA
                    have hr1 := hr2.below hB1
                    have HIw := hid hIw
                    clear how hIw
                    go_wp2_with fail
                    refine (rImage_any _ _ _ m (intsOf (elems S1)) W _ hr1 HI1 HIw.out hv Hset.out Hww.out).mono ?_
                    rw [Himg.out]
                    rintro e w7 ⟨r7, rfl, i7, h7⟩
                    have HI7 := hid i7
                    clear i7
                    go_wp2_with fail
                    go_roundw
                    case rel => exact ⟨imgWord m S1 W, k + 1, true, by omega, by go_num, rfl, ⟨HRSn.out, fun h => (by cases h), fun _ => Hless.out⟩, HI7.out, btr hB1 h7⟩
                    case measure => simp [intOf]; omega
                · have e1 : decide ((k : Int) < i) = false := by simp; omega
                  have hki2 : k = i := by omega
                  have hnt2 := hid (show NoTo m S1 (i + 1) from fun a b hba ha => by
                    by_cases e : a = i
                    · subst e; exact Hnk.out b (by omega)
                    · exact Hnt.out a b hba (by omega))
                  go_wp2_with fail
                  go_roundw
                  case rel => exact ⟨S1, i + 1, false, by omega, by go_num, rfl, ⟨HRS1.out, fun _ => ⟨rfl, hnt2.out⟩, fun h => (by cases h)⟩, HI.out, hB⟩
                  case measure => simp [intOf]; omega
          · have d1 : decide ((i : Int) < (elems S').length) = false := by simp; omega
            have hnm := hid (NoTo.all hv HRS'.out.1 (by rw [show (elems S').length = i by omega]; exact Hnt.out))
            go_wp2_with fail
            go_roundg (2 * (elems S').length)
            case measure => have := Hk.out; simp at this; omega
            case rel => exact ⟨S', false, rfl, HRS'.out, HI.out, by simp, fun _ => hnm.out, hB⟩
end Go.Proofs.YtiiiinoappjhdaaDoor
namespace Go.Proofs.YtiiiinoappjhdaaDoor
open Go.RowKit Go.Shelf
/-- A word whose set has one element: all pairs are merged. -/
theorem allMerge_of {m : List (List Int)} (hv : validM m = true) {u : List Int} (hu : isWordM m u = true) (h : (imageM m (allM m.length) u).length = 1) : allMerge m := by
  obtain ⟨x, hx⟩ := List.length_eq_one_iff.1 h
  obtain ⟨t, -, ht⟩ := image_one hv hu hx
  intro p q hpq hq
  exact ⟨u.length, u, isWordM_all hu, rfl, by rw [ht p (by omega), ht q hq]⟩
end Go.Proofs.YtiiiinoappjhdaaDoor
namespace Go.Proofs.YtiiiinoappjhdaaDoor
open Go.RowKit Go.Shelf
set_option maxRecDepth 100000 in
set_option maxHeartbeats 4000000 in
theorem shortFinds_err (v : Value) (m : List (List Int)) (w : World) (hT : Tab w) (h : Rows w v m) (hbad : (validM m && decide (m.length ≤ 12)) = false) :
    Calls Tryd.prog 3 #[.agg #[v]] w fun e w' => e = .returned (.bool true) ∧ Below w.heap.size w w' := by
  obtain ⟨A, cap, rfl, hml, -⟩ := id h
  have hX := bal (Below.refl _ w) (.cells #[.slice A m.length cap] 24)
  have hbx := (Boxed.new w 24 (.slice A m.length cap)).cell
  have Hbad := hid hbad
  clear hbad
  go_enter Tryd.func3, Tryd.ntmps3
  go_wp2_with fail
  have hr := h.below hX
  have hTX := hT.on hX
  generalize w.alloc (.cells #[.slice A m.length cap] 24) = X at *
  cases hv : validM m with
  | false =>
    have hs : smallE m = 1 := by unfold smallE; rw [if_neg (by rw [hv]; simp)]
    refine (Shortest_err _ m 1 _ hr hs (by decide)).mono ?_
    rintro e w1 ⟨rfl, h1⟩
    have c1 := (h1.cell (p := ⟨w.heap.size, 0, none⟩) (World.block_lt_of_cell? _ _ hbx)).trans hbx
    go_wp2_with fail
    refine (rValid_bool _ m false _ (hr.below h1) hv).mono ?_
    rintro e w2 ⟨rfl, h2⟩
    have B2 := btr h1 h2
    go_wp2_with fail
    refine (rSame_eq _ _ [] _ (Ints.nil w2) (Ints.nil w2)).mono ?_
    rintro e w3 ⟨rfl, h3⟩
    have B3 := btr B2 h3
    go_wp2_with fail
    refine (awake4_any _ (hTX.on B3)).mono ?_
    rintro e w4 ⟨rfl, h4⟩
    go_wp2
    go_ret
    exact ⟨rfl, btr hX (btr B3 h4)⟩
  | true =>
    have h12 : 12 < m.length := by have := Hbad.out; rw [hv] at this; simpa using this
    have hs : smallE m = 3 := by unfold smallE; rw [if_pos hv, if_pos h12]
    have d1 : decide ((12 : Int) < m.length) = true := by simp; omega
    refine (Shortest_err _ m 3 _ hr hs (by decide)).mono ?_
    rintro e w1 ⟨rfl, h1⟩
    have c1 := (h1.cell (p := ⟨w.heap.size, 0, none⟩) (World.block_lt_of_cell? _ _ hbx)).trans hbx
    go_wp2_with fail
    refine (rValid_bool _ m true _ (hr.below h1) hv).mono ?_
    rintro e w2 ⟨rfl, h2⟩
    have B2 := btr h1 h2
    have c2 := (h2.cell (p := ⟨w.heap.size, 0, none⟩) (World.block_lt_of_cell? _ _ c1)).trans c1
    go_wp2_with fail
    refine (rSame_eq _ _ [] _ (Ints.nil w2) (Ints.nil w2)).mono ?_
    rintro e w3 ⟨rfl, h3⟩
    have B3 := btr B2 h3
    go_wp2_with fail
    refine (awake4_any _ (hTX.on B3)).mono ?_
    rintro e w4 ⟨rfl, h4⟩
    go_wp2
    go_ret
    exact ⟨rfl, btr hX (btr B3 h4)⟩
open Classical in
set_option maxRecDepth 100000 in
set_option maxHeartbeats 4000000 in
theorem shortFinds_ok (v : Value) (m : List (List Int)) (w : World) (hT : Tab w) (h : Rows w v m) (hv : validM m = true) (h12 : m.length ≤ 12) :
    Calls Tryd.prog 3 #[.agg #[v]] w fun e w' => e = .returned (.bool true) ∧ Below w.heap.size w w' := by
  obtain ⟨A, cap, rfl, hml, -⟩ := id h
  have hX := bal (Below.refl _ w) (.cells #[.slice A m.length cap] 24)
  have hbx := (Boxed.new w 24 (.slice A m.length cap)).cell
  have d1 : decide ((12 : Int) < m.length) = false := by simp; omega
  obtain ⟨i0, hi0, -, -, hmin, hfirst⟩ := rank_spec hv
  by_cases h1 : szB (imgF m) i0 = 1
  · have hw := imgF_isWord hv h12 hi0
    have hs := szB_image hv h12 hi0 (imgF_word hv hi0).2
    have hall := allMerge_of hv hw (hs.trans h1)
    have hhome : decide (allMerge m) = true := decide_eq_true hall
    have hS := fun v w hT h => Shortest_as v m i0 0 (wordB (imgF m) i0) w hT h hv h12 hi0 hmin hfirst (hid (.inl ⟨h1, rfl, rfl⟩))
    have hFst := fun v w h => rFirst_any v m 1 i0 w h hv h12 hi0 (by omega) (fun j hj => by have := hfirst j hj; omega) (by omega)
    have HS := hid hS
    have HF := hid hFst
    have Hhome := hid hhome
    clear hS hFst hhome hall hs hw hmin hfirst h1 hi0
    generalize wordB (imgF m) i0 = L at *
    go_enter Tryd.func3, Tryd.ntmps3
    go_wp2_with fail
    have hr := h.below hX
    have hTX := hT.on hX
    generalize w.alloc (.cells #[.slice A m.length cap] 24) = X at *
    refine (HS.out _ _ hTX hr).mono ?_
    rintro e w1 ⟨A1, k1, rfl, i1, h1⟩
    have c1 := (h1.cell (p := ⟨w.heap.size, 0, none⟩) (World.block_lt_of_cell? _ _ hbx)).trans hbx
    go_wp2_with fail
    refine (rValid_bool _ m true _ (hr.below h1) hv).mono ?_
    rintro e w2 ⟨rfl, h2⟩
    have B2 := btr h1 h2
    have c2 := (h2.cell (p := ⟨w.heap.size, 0, none⟩) (World.block_lt_of_cell? _ _ c1)).trans c1
    go_wp2_with fail
    refine (rHome_any _ m true _ (hr.below B2) hv Hhome.out).mono ?_
    rintro e w3 ⟨rfl, h3⟩
    have B3 := btr B2 h3
    have c3 := (h3.cell (p := ⟨w.heap.size, 0, none⟩) (World.block_lt_of_cell? _ _ c2)).trans c2
    go_wp2_with fail
    refine (HF.out _ _ (hr.below B3)).mono ?_
    rintro e w4 ⟨A4, k4, rfl, i4, h4⟩
    have B4 := btr B3 h4
    have i14 := i1.below (btr h2 (btr h3 h4))
    go_wp2_with fail
    refine (rSame_eq _ _ L _ i14 i4).mono ?_
    rintro e w5 ⟨rfl, h5⟩
    have B5 := btr B4 h5
    go_wp2_with fail
    refine (awake4_any _ (hTX.on B5)).mono ?_
    rintro e w6 ⟨rfl, h6⟩
    go_wp2
    go_ret
    exact ⟨rfl, btr hX (btr B5 h6)⟩
  · have hno : ¬ allMerge m := fun hall => by
      obtain ⟨r1, r2, -⟩ := resetW_ok hv hall
      obtain ⟨k1, -⟩ := least_ok hv h12 hi0 hmin hfirst r1
      rw [image_len (by omega), r2] at k1
      have := szB_pos hv h12 hi0
      omega
    have hhome : decide (allMerge m) = false := decide_eq_false hno
    have hS := fun v w hT h => Shortest_as v m i0 4 [] w hT h hv h12 hi0 hmin hfirst (hid (.inr ⟨h1, rfl, rfl⟩))
    have HS := hid hS
    have Hhome := hid hhome
    clear hS hhome hno hmin hfirst h1 hi0
    go_enter Tryd.func3, Tryd.ntmps3
    go_wp2_with fail
    have hr := h.below hX
    have hTX := hT.on hX
    generalize w.alloc (.cells #[.slice A m.length cap] 24) = X at *
    refine (HS.out _ _ hTX hr).mono ?_
    rintro e w1 ⟨A1, k1, rfl, i1, h1⟩
    have c1 := (h1.cell (p := ⟨w.heap.size, 0, none⟩) (World.block_lt_of_cell? _ _ hbx)).trans hbx
    go_wp2_with fail
    refine (rValid_bool _ m true _ (hr.below h1) hv).mono ?_
    rintro e w2 ⟨rfl, h2⟩
    have B2 := btr h1 h2
    have c2 := (h2.cell (p := ⟨w.heap.size, 0, none⟩) (World.block_lt_of_cell? _ _ c1)).trans c1
    go_wp2_with fail
    refine (rHome_any _ m false _ (hr.below B2) hv Hhome.out).mono ?_
    rintro e w3 ⟨rfl, h3⟩
    have B3 := btr B2 h3
    have i13 := i1.below (btr h2 h3)
    go_wp2_with fail
    refine (rSame_eq _ _ [] _ i13 (Ints.nil w3)).mono ?_
    rintro e w5 ⟨rfl, h5⟩
    have B5 := btr B3 h5
    go_wp2_with fail
    refine (awake4_any _ (hTX.on B5)).mono ?_
    rintro e w6 ⟨rfl, h6⟩
    go_wp2
    go_ret
    exact ⟨rfl, btr hX (btr B5 h6)⟩
theorem shortFinds_any (v : Value) (m : List (List Int)) (w : World) (hT : Tab w) (h : Rows w v m) :
    Calls Tryd.prog 3 #[.agg #[v]] w fun e w' => e = .returned (.bool true) ∧ Below w.heap.size w w' := by
  cases hbad : (validM m && decide (m.length ≤ 12)) with
  | false => exact shortFinds_err v m w hT h hbad
  | true =>
    simp only [Bool.and_eq_true, decide_eq_true_eq] at hbad
    exact shortFinds_ok v m w hT h hbad.1 hbad.2
set_option maxRecDepth 100000 in
set_option maxHeartbeats 4000000 in
theorem shortRanks_err (v : Value) (m : List (List Int)) (w : World) (hT : Tab w) (h : Rows w v m) (hbad : (validM m && decide (m.length ≤ 12)) = false) :
    Calls Tryd.prog 4 #[.agg #[v]] w fun e w' => e = .returned (.bool true) ∧ Below w.heap.size w w' := by
  obtain ⟨A, cap, rfl, hml, -⟩ := id h
  have hX := bal (Below.refl _ w) (.cells #[.slice A m.length cap] 24)
  have hbx := (Boxed.new w 24 (.slice A m.length cap)).cell
  have Hbad := hid hbad
  clear hbad
  go_enter Tryd.func4, Tryd.ntmps4
  go_wp2_with fail
  have hr := h.below hX
  have hTX := hT.on hX
  generalize w.alloc (.cells #[.slice A m.length cap] 24) = X at *
  cases hv : validM m with
  | false =>
    have hs : smallE m = 1 := by unfold smallE; rw [if_neg (by rw [hv]; simp)]
    refine (Rank_err _ m 1 _ hr hs (by decide)).mono ?_
    rintro e w1 ⟨rfl, h1⟩
    have c1 := (h1.cell (p := ⟨w.heap.size, 0, none⟩) (World.block_lt_of_cell? _ _ hbx)).trans hbx
    go_wp2_with fail
    refine (rValid_bool _ m false _ (hr.below h1) hv).mono ?_
    rintro e w2 ⟨rfl, h2⟩
    have B2 := btr h1 h2
    go_wp2_with fail
    refine (awake4_any _ (hTX.on B2)).mono ?_
    rintro e w4 ⟨rfl, h4⟩
    go_wp2
    go_ret
    exact ⟨rfl, btr hX (btr B2 h4)⟩
  | true =>
    have h12 : 12 < m.length := by have := Hbad.out; rw [hv] at this; simpa using this
    have hs : smallE m = 3 := by unfold smallE; rw [if_pos hv, if_pos h12]
    have d1 : decide ((12 : Int) < m.length) = true := by simp; omega
    refine (Rank_err _ m 3 _ hr hs (by decide)).mono ?_
    rintro e w1 ⟨rfl, h1⟩
    have c1 := (h1.cell (p := ⟨w.heap.size, 0, none⟩) (World.block_lt_of_cell? _ _ hbx)).trans hbx
    go_wp2_with fail
    refine (rValid_bool _ m true _ (hr.below h1) hv).mono ?_
    rintro e w2 ⟨rfl, h2⟩
    have B2 := btr h1 h2
    have c2 := (h2.cell (p := ⟨w.heap.size, 0, none⟩) (World.block_lt_of_cell? _ _ c1)).trans c1
    go_wp2_with fail
    refine (awake4_any _ (hTX.on B2)).mono ?_
    rintro e w4 ⟨rfl, h4⟩
    go_wp2
    go_ret
    exact ⟨rfl, btr hX (btr B2 h4)⟩
set_option maxRecDepth 100000 in
set_option maxHeartbeats 4000000 in
theorem shortRanks_ok (v : Value) (m : List (List Int)) (w : World) (hT : Tab w) (h : Rows w v m) (hv : validM m = true) (h12 : m.length ≤ 12) :
    Calls Tryd.prog 4 #[.agg #[v]] w fun e w' => e = .returned (.bool true) ∧ Below w.heap.size w w' := by
  obtain ⟨A, cap, rfl, hml, -⟩ := id h
  have hX := bal (Below.refl _ w) (.cells #[.slice A m.length cap] 24)
  have hbx := (Boxed.new w 24 (.slice A m.length cap)).cell
  have d1 : decide ((12 : Int) < m.length) = false := by simp; omega
  obtain ⟨i0, hi0, hr1, hr2, hmin, hfirst⟩ := rank_spec hv
  have hle : szB (imgF m) i0 ≤ 64 := elems_length _
  have hR := fun v w hT h => Rank_as v m (szB (imgF m) i0) (wordB (imgF m) i0) w hT h hv h12 (hid hr1) (hid hr2) (imgF_len hv h12 hi0)
  have hRk := fun v w h => rRank_any v m (szB (imgF m) i0) w h hv h12 (fun S hS hn => rank_size hv h12 hi0 hmin hS hn)
  have hFst := fun v w h => rFirst_any v m (szB (imgF m) i0) i0 w h hv h12 hi0 (Nat.le_refl _) hfirst (by omega)
  have HR := hid hR
  have HRk := hid hRk
  have HF := hid hFst
  clear hR hRk hFst hmin hfirst hr1 hr2 hi0
  generalize wordB (imgF m) i0 = L at *
  generalize szB (imgF m) i0 = r at *
  go_enter Tryd.func4, Tryd.ntmps4
  go_wp2_with fail
  have hr := h.below hX
  have hTX := hT.on hX
  generalize w.alloc (.cells #[.slice A m.length cap] 24) = X at *
  refine (HR.out _ _ hTX hr).mono ?_
  rintro e w1 ⟨A1, k1, rfl, i1, h1⟩
  have c1 := (h1.cell (p := ⟨w.heap.size, 0, none⟩) (World.block_lt_of_cell? _ _ hbx)).trans hbx
  go_wp2_with fail
  refine (rValid_bool _ m true _ (hr.below h1) hv).mono ?_
  rintro e w2 ⟨rfl, h2⟩
  have B2 := btr h1 h2
  have c2 := (h2.cell (p := ⟨w.heap.size, 0, none⟩) (World.block_lt_of_cell? _ _ c1)).trans c1
  go_wp2_with fail
  refine (HRk.out _ _ (hr.below B2)).mono ?_
  rintro e w3 ⟨rfl, h3⟩
  have B3 := btr B2 h3
  have c3 := (h3.cell (p := ⟨w.heap.size, 0, none⟩) (World.block_lt_of_cell? _ _ c2)).trans c2
  go_wp2_with fail
  refine (HF.out _ _ (hr.below B3)).mono ?_
  rintro e w4 ⟨A4, k4, rfl, i4, h4⟩
  have B4 := btr B3 h4
  have i14 := i1.below (btr h2 (btr h3 h4))
  go_wp2_with fail
  refine (rSame_eq _ _ L _ i14 i4).mono ?_
  rintro e w5 ⟨rfl, h5⟩
  have B5 := btr B4 h5
  go_wp2_with fail
  refine (awake4_any _ (hTX.on B5)).mono ?_
  rintro e w6 ⟨rfl, h6⟩
  go_wp2
  go_ret
  exact ⟨rfl, btr hX (btr B5 h6)⟩
theorem shortRanks_any (v : Value) (m : List (List Int)) (w : World) (hT : Tab w) (h : Rows w v m) :
    Calls Tryd.prog 4 #[.agg #[v]] w fun e w' => e = .returned (.bool true) ∧ Below w.heap.size w w' := by
  cases hbad : (validM m && decide (m.length ≤ 12)) with
  | false => exact shortRanks_err v m w hT h hbad
  | true =>
    simp only [Bool.and_eq_true, decide_eq_true_eq] at hbad
    exact shortRanks_ok v m w hT h hbad.1 hbad.2
end Go.Proofs.YtiiiinoappjhdaaDoor
