/-
  Texts that the proof of the law stands on: W, V, O2, G4, U26, Y44, U11, U12, U13, U14, U15, U27.
-/
import Derived.Test.YtphpablchlpagaaDoorDeC
import Derived.WalkKit
import Derived.ProofKit
import Derived.OpenShut
import Derived.Deep.DeepHandedRow
import Derived.Deep.DeepWitnessRowRef
import Derived.Lib.LaidTab
import Derived.Lib.LaidIn
import Derived.Lib.ItoaNum
import Derived.WideKeyArgs
import Derived.Test.YtphpablchlpagaaDoorRows
import Derived.Deep.CutRange
import Derived.Deep.RegionHeld3
import Derived.Deep.LoopGhost
import Derived.Deep.RegionHeld
import Derived.Deep.AppendLies
import Derived.Laws.OwnMore
import Derived.Deep.RegionLawGrows
set_option linter.unusedVariables false
set_option linter.unusedSimpArgs false
namespace Go.Proofs.YtphpablchlpagaaDoor
open Go.ChangeShapes Go.WideShapes Go.ChangeAt Go.RowKit
theorem own : ownKnob Tryd.prog.godebug = none := by kernel_rfl
theorem gTab : Tryd.prog.globalNamed "math/bits.deBruijn64tab" = some 0 := by kernel_rfl
theorem gTabType : (Tryd.prog.globals[0]?).map (·.type) = some 106 := by kernel_rfl
theorem cellsTab : Tryd.prog.cellsOf 106 = 64 := by kernel_rfl
theorem cellsU8 : Tryd.prog.cellsOf 5 = 1 := by kernel_rfl
section
variable {H : Type} {enc : TypeId × Value → H}
/-- All arguments read as they did. -/
theorem TrodAll_stays {P : Program} (hl : laidOutB P = true) {W W' : World} {sp : Nat → Bool} : ∀ {ts : List TypeId} {vs : List Value} {ds : List (DataW H)} {ps : List MemPlace},
    (∀ t ∈ ts, P.readableRec t = true ∧ t < P.types.size) → DataW.TrodAll enc P W 0 (fun _ => true) true ts vs ds ps → (∀ x ∈ ps, W.sameAt W' x) → (∀ x ∈ ps, sp x.block = true) → DataW.TrodAll enc P W' 0 sp true ts vs ds ps
  | [], vs, ds, ps, _, h, _, _ => by cases vs <;> cases ds <;> simp_all [DataW.TrodAll]
  | t :: ts, vs, ds, ps, ht, h, hs, hsp => by
    obtain ⟨v, vs', d, ds', p, q, rfl, rfl, rfl, h0, r0⟩ := trodAll_cons h
    exact trodAll_cons_mk (WideElems.Trod_stays hl (ht t (by simp)).1 (ht t (by simp)).2 h0 (fun x hx => hs x (List.mem_append_left _ hx)) (fun x hx => hsp x (List.mem_append_left _ hx)))
      (TrodAll_stays hl (fun u hu => ht u (by simp [hu])) r0 (fun x hx => hs x (List.mem_append_right _ hx)) (fun x hx => hsp x (List.mem_append_right _ hx)))
set_option maxRecDepth 100000 in
/-- An automaton that came in. -/
theorem auto_of {W : World} {base : Nat} {v : Value} {d : DataW H} {p : List MemPlace} (hv : Value.okWide Tryd.prog W .any base 24 v) (h : DataW.Trod enc Tryd.prog W 0 (fun _ => true) true 24 v d p)
    (hw : ∀ n ∈ d.weights Tryd.prog 24, n ≤ reachBytes) : ∃ c m, v = .agg #[c] ∧ Rows W c m := by
  obtain ⟨cs, rfl, hs⟩ := okWide_struct Tryd.underlying24 hv
  rw [cells_auto] at hs
  obtain ⟨c, rfl⟩ : ∃ c, cs = #[c] := by
    match cs, hs with
    | ⟨[c]⟩, _ => exact ⟨c, rfl⟩
  obtain ⟨fuel, hf⟩ := h
  obtain ⟨y0, n, hx, _, h0⟩ := trod_struct1 Tryd.underlying24 hf
  have hd : d = .agg [y0.1] := (Prod.mk.inj hx).1
  subst hd
  obtain ⟨m, hm⟩ := rows_of_trod (fuel := n) (c := c) (x := y0) h0 (fun k hk => hw k (by
    rw [DataW.weights, Tryd.underlying24]
    simp only [List.map_cons, List.map_nil, DataW.weightsEach, List.append_nil]
    exact hk))
  exact ⟨c, m, rfl, hm⟩
set_option maxRecDepth 100000 in
/-- A list of numbers that came in. -/
theorem list_of {W : World} {base : Nat} {v : Value} {d : DataW H} {p : List MemPlace} (hv : Value.okWide Tryd.prog W .any base 34 v) (h : DataW.Trod enc Tryd.prog W 0 (fun _ => true) true 34 v d p)
    (hw : ∀ n ∈ d.weights Tryd.prog 34, n ≤ reachBytes) : ∃ l, Ints W v l := by
  obtain ⟨a, len, cap, rfl⟩ := okWide_slice Tryd.underlying34 hv
  obtain ⟨fuel, hf⟩ := h
  exact ints_of_trod hf hw
set_option maxRecDepth 100000 in
/-- A nil list has no room. -/
theorem list_nil_of {W : World} {base : Nat} {v : Value} {d : DataW H} {p : List MemPlace} (hv : Value.okWide Tryd.prog W .any base 34 v) (h : DataW.Trod enc Tryd.prog W 0 (fun _ => true) true 34 v d p) : ∀ A n c, v = .slice A n c → A = none → c = 0 := by
  obtain ⟨a, len, cap, rfl⟩ := okWide_slice Tryd.underlying34 hv
  obtain ⟨fuel, hf⟩ := h
  rintro A n c hA rfl
  simp only [Value.slice.injEq] at hA
  obtain ⟨rfl, rfl, rfl⟩ := hA
  have hf' : DataW.trod enc Tryd.prog W 0 (fun _ => true) true fuel 34 [.slice none len cap] = some (d, p) := hf
  rcases Go.ChangeShapes.open_ints Tryd.underlying34 Tryd.underlying3 cells_int hf' with ⟨hc, _⟩ | ⟨a, _, _, _, hc, _⟩
  · simp only [List.cons.injEq, Value.slice.injEq] at hc
    exact hc.1.2.2
  · simp at hc
theorem weight_of {P : Program} {ts : List TypeId} {ds : List (DataW H)} (h : (DataW.weightsEach P ts ds).all (· ≤ reachBytes) = true) {j : Nat} {t : TypeId} {d : DataW H} (ht : ts[j]? = some t) (hd : ds[j]? = some d) : ∀ n ∈ d.weights P t, n ≤ reachBytes := by
  intro n hn
  have := List.all_eq_true.1 h _ (DataW.weights_mem_each ht hd n hn)
  simpa using this
end
end Go.Proofs.YtphpablchlpagaaDoor
namespace Go.Proofs.YtphpablchlpagaaDoor
open Go.ChangeShapes Go.WideShapes Go.ChangeAt Go.RowKit
noncomputable def laidWorld2 (os : Os) : World :=
  let w0 := World.holding Tryd.prog os ⟨#[], #[], []⟩
  let put (h : Array Obj) (g : Nat) (cs : Array Value) : Array Obj := h.modify g fun
    | .cells _ t frozen => .cells cs t frozen
    | o => o
  { w0 with heap := put w0.heap 0 (Lib.deBruijn64tab.map fun z : Nat => Value.int .u8 z).toArray }
set_option maxRecDepth 1000000 in
theorem laid_met2 (os : Os) (args : Array Value) : laidMet Tryd.prog Rows.eulerKindsRow.laid ((laidWorld2 os).forCall (fun _ _ => 0) ⟨#[], args, []⟩).memory :=
  (LaidIn.of_run (l := Rows.eulerKindsRow.laid) [0] 8 (by kernel_rfl) (by kernel_rfl) (by kernel_rfl) (by kernel_rfl)).met
/-- The table of the least bit, out of the list. -/
theorem tab_of2 {W : World} (h : laidMetH Tryd.prog Rows.eulerKindsRow.laid W) : Tab W := by
  have h1 : laidMet Tryd.prog Rows.eulerKindsRow.laid W := h
  have h2 : laidMet Tryd.prog (("math/bits.deBruijn64tab", Lib.tabData .u8 (Lib.deBruijn64tab.map fun x : Nat => (x : Int))) :: Rows.eulerKindsRow.laid.drop 1) W := h1
  have h3 := Lib.tabIs_of_head gTab gTabType Tryd.underlying106 Tryd.underlying5 cellsU8 cellsTab h2
  intro j hj
  have h4 := h3.cell gTab j (by rw [List.length_map]; exact hj)
  rw [h4]
  have e : j < Lib.deBruijn64tab.length := hj
  simp [List.getD_eq_getElem?_getD, List.getElem?_eq_getElem e]
end Go.Proofs.YtphpablchlpagaaDoor
namespace Go.Proofs.YtphpablchlpagaaDoor
open Go.RowKit Go.Deep Go.ChangeShapes Go.WideShapes
/-- A slice of slices of ints, where a nil row has no room. -/
def RowsN (w : World) (v : Value) (m : List (List Int)) : Prop :=
  ∃ A cap, v = .slice A m.length cap ∧ m.length ≤ big ∧ ∀ i, i < m.length → ∃ b off Ar c, A = some ⟨b, off, none⟩ ∧ w.cell? ⟨b, off + i, none⟩ = some (.slice Ar (m.getD i []).length c) ∧ Ints w (.slice Ar (m.getD i []).length c) (m.getD i []) ∧ (Ar = none → c = 0)
theorem RowsN.rows {w : World} {v : Value} {m : List (List Int)} (h : RowsN w v m) : Rows w v m := by
  obtain ⟨A, cap, hv, hl, hc⟩ := h
  refine ⟨A, cap, hv, hl, fun i hi => ?_⟩
  obtain ⟨b, off, Ar, c, hA, hcell, hr, _⟩ := hc i hi
  exact ⟨b, off, _, hA, hcell, hr⟩
theorem RowsN.below {w w' : World} {v : Value} {m : List (List Int)} (h : RowsN w v m) (hb : Below w.heap.size w w') : RowsN w' v m := by
  obtain ⟨A, cap, hv, hl, hc⟩ := h
  refine ⟨A, cap, hv, hl, fun i hi => ?_⟩
  obtain ⟨b, off, Ar, c, hA, hcell, hr, hn⟩ := hc i hi
  exact ⟨b, off, Ar, c, hA, (hb.cell (p := ⟨b, off + i, none⟩) (World.block_lt_of_cell? _ _ hcell)).trans hcell, hr.below hb, hn⟩
section
variable {H : Type} {enc : TypeId × Value → H} {W : World} {base : Nat}
end
end Go.Proofs.YtphpablchlpagaaDoor
namespace Go.Proofs.YtphpablchlpagaaDoor
open Go.RowKit Go.Shelf
/-- Whether the one list of numbers comes before the other of as many. -/
def befB : List Int → List Int → Bool
  | x :: a, y :: b => if x = y then befB a b else decide (x < y)
  | _, _ => false
theorem befB_eq : ∀ l : List Int, befB l l = false
  | [] => rfl
  | x :: a => by rw [befB, if_pos rfl]; exact befB_eq a
theorem befB_at : ∀ (l m : List Int) (k : Nat), k < l.length → l.length = m.length → l.take k = m.take k → l.getD k 0 ≠ m.getD k 0 → befB l m = decide (l.getD k 0 < m.getD k 0)
  | [], _, k, h, _, _, _ => by simp at h
  | _ :: _, [], _, _, h, _, _ => by simp at h
  | x :: a, y :: b, 0, _, _, _, h4 => by
    simp only [List.getD_cons_zero] at h4 ⊢
    rw [befB, if_neg h4]
  | x :: a, y :: b, k + 1, h1, h2, h3, h4 => by
    simp only [List.take_succ_cons, List.cons.injEq] at h3
    simp only [List.getD_cons_succ] at h4 ⊢
    rw [befB, if_pos h3.1]
    exact befB_at a b k (by simpa using h1) (by simpa using h2) h3.2 h4
theorem befB_lex : ∀ (l m : List Int), befB l m = true → lexLt l m
  | [], _, h => by simp [befB] at h
  | _ :: _, [], h => by simp [befB] at h
  | x :: a, y :: b, h => by
    by_cases e : x = y
    · rw [befB, if_pos e] at h
      exact .inr ⟨e, befB_lex a b h⟩
    · rw [befB, if_neg e] at h
      exact .inl (of_decide_eq_true h)
set_option maxRecDepth 100000 in
set_option maxHeartbeats 1000000 in
theorem rBefore_any (v u : Value) (l m : List Int) (w : World) (h : Ints w v l) (hu : Ints w u m) (hlen : l.length = m.length) :
    Calls Tryd.prog 45 #[v, u] w fun e w' => e = .returned (.bool (befB l m)) ∧ Below w.heap.size w w' := by
  obtain ⟨A, cap, rfl, hl, hc⟩ := h
  obtain ⟨Au, capu, rfl, hlu, hcu⟩ := hu
  unfold big at hl hlu
  have Hlen := hid hlen
  have hd0 : decide ((l.length : Int) < (m.length : Int)) = false := by simp; omega
  clear hlen
  go_enter Tryd.func45, Tryd.ntmps45
  go_wp2
  go_loopw [5] (fun i wr => ∃ k : Nat, k ≤ l.length ∧ i = .int .i64 k ∧ l.take k = m.take k ∧ Below w.heap.size w wr) (fun i _ => l.length - (intOf i).toNat)
  case atStart => exact ⟨0, Nat.zero_le _, rfl, rfl, Below.refl _ _⟩
  case round =>
    obtain ⟨k, hk, rfl, htk, hB⟩ := hrel
    have Htk := hid htk
    clear htk
    by_cases hlt : k < l.length
    · have hle := Hlen.out
      obtain ⟨b, off, hA, hcell⟩ := hc k hlt
      obtain ⟨b', off', hA', hcell'⟩ := hcu k (by omega)
      subst hA
      subst hA'
      have c1 := (hB.cell (p := ⟨b, off + k, none⟩) (World.block_lt_of_cell? _ _ hcell)).trans hcell
      have c2 := (hB.cell (p := ⟨b', off' + k, none⟩) (World.block_lt_of_cell? _ _ hcell')).trans hcell'
      have Hs := hid (fun hx => take_eq_succ hlt Hlen.out Htk.out hx)
      have Hf := hid (fun hx => befB_at l m k hlt Hlen.out Htk.out hx)
      have i1 : (k : Int) < l.length := by omega
      have i2 : (k : Int) < m.length := by omega
      have d1 : decide ((k : Int) < (l.length : Int)) = true := by simp; omega
      have d2 : decide ((k : Int) < (m.length : Int)) = true := by simp; omega
      clear hc hcu hcell hcell' hle
      generalize l.getD k 0 = x at *
      generalize m.getD k 0 = y at *
      by_cases hxy : x = y
      · have hd : (x != y) = false := by simp [hxy]
        have Hxy := hid hxy
        clear hxy
        go_wp2_with fail
        go_quiet (fail)
        go_wp2
        go_roundw
        case rel => exact ⟨k + 1, by omega, by go_num, Hs.out Hxy.out, bdr hB _⟩
        case measure => simp [intOf]; omega
      · have hd : (x != y) = true := by simp [hxy]
        have Hxy := hid hxy
        clear hxy
        go_wp2_with fail
        go_quiet (fail)
        have hcell1 := c1
        go_wp2_with fail
        go_quiet (fail)
        go_wp2
        go_ret
        exact ⟨ret_bool (Hf.out Hxy.out).symm, bdr (bdr hB _) _⟩
    · have hlk : k = l.length := by omega
      have d1 : decide ((k : Int) < (l.length : Int)) = false := by simp; omega
      have he : l = m := by
        have h1 := Htk.out
        rw [hlk, List.take_length, Hlen.out, List.take_length] at h1
        exact h1
      go_wp2
      go_ret
      refine ⟨ret_bool ?_, hB⟩
      subst he
      rw [befB_eq]
      try simp
/-- A list's beginning. -/
theorem Ints.take {w : World} {A : Option Addr} {c : Nat} {l : List Int} (h : Ints w (.slice A l.length c) l) {k : Nat} (hk : k ≤ l.length) (d : Nat) : Ints w (.slice A k d) (l.take k) := by
  obtain ⟨A', c', hv, hl, hc⟩ := h
  simp only [Value.slice.injEq] at hv
  obtain ⟨rfl, -, rfl⟩ := hv
  have hlk : (l.take k).length = k := by simp; omega
  refine ⟨A, d, by rw [hlk], by omega, fun i hi => ?_⟩
  obtain ⟨b, off, hA, hcell⟩ := hc i (by omega)
  refine ⟨b, off, hA, ?_⟩
  rw [hcell]
  congr 2
  simp only [List.getD_eq_getElem?_getD, List.getElem?_take]
  rw [if_pos (by omega)]
end Go.Proofs.YtphpablchlpagaaDoor
namespace Go.Proofs.YtphpablchlpagaaDoor
theorem befB_no : ∀ (a b : List Int), a.length = b.length → befB a b = false → a = b ∨ lexLt b a
  | [], [], _, _ => .inl rfl
  | [], _ :: _, h, _ => by simp at h
  | _ :: _, [], h, _ => by simp at h
  | x :: a, y :: b, h, k => by
    by_cases e : x = y
    · subst e
      rw [befB, if_pos rfl] at k
      rcases befB_no a b (by simpa using h) k with e | e
      · exact .inl (by rw [e])
      · exact .inr (.inr ⟨rfl, e⟩)
    · rw [befB, if_neg e] at k
      have := of_decide_eq_false k
      exact .inr (.inl (by omega))
theorem SLe.of_no {a b : List Int} (hl : a.length = b.length) (h : befB a b = false) : SLe b a := by
  rcases befB_no a b hl h with e | e
  · exact .inl e.symm
  · exact .inr (.inr ⟨hl.symm, e⟩)
theorem SLe.of_yes {a b : List Int} (hl : a.length = b.length) (h : befB a b = true) : SLe a b := .inr (.inr ⟨hl, befB_lex a b h⟩)
/-- The pairs of elements and letters that were looked at. -/
def DoneP (m : List (List Int)) (i x i' x' : Nat) : Prop := x' < letters m ∧ (i' < i ∨ i' = i ∧ x' < x)
def tS (m : List (List Int)) (level : List Tr) (i x : Nat) : Nat := preSet m (level.getD i (0, [])).1 (x : Int)
def tW (level : List Tr) (i x : Nat) : List Int := (x : Int) :: (level.getD i (0, [])).2
structure LevR (m : List (List Int)) (S L : Nat) (met : Nat → Bool) (level : List Tr) : Prop where
  ok : ∀ t ∈ level, WDm m t.2 ∧ t.2.length = L ∧ t.1 = preWord m S t.2
  seen : ∀ T, met T = true ↔ ∃ w, WDm m w ∧ w.length ≤ L ∧ preWord m S w = T
  all : ∀ w, WDm m w → w.length = L → (∃ v, WDm m v ∧ v.length < L ∧ preWord m S v = preWord m S w) ∨ ∃ t ∈ level, t.1 = preWord m S w ∧ SLe t.2 w
  small : ∀ w, WDm m w → w.length ≤ L → ¬ szS S < szS (preWord m S w)
/-- The next level. -/
structure MidN (m : List (List Int)) (S L : Nat) (level : List Tr) (met : Nat → Bool) (i x : Nat) (next : List Tr) : Prop where
  ok : ∀ t ∈ next, WDm m t.2 ∧ t.2.length = L + 1 ∧ t.1 = preWord m S t.2 ∧ met t.1 = false
  dist : ∀ j k, j < k → k < next.length → (next.getD j (0, [])).1 ≠ (next.getD k (0, [])).1
  done : ∀ i' x', i' < level.length → DoneP m i x i' x' → met (tS m level i' x') = true ∨ ∃ t ∈ next, t.1 = tS m level i' x' ∧ SLe t.2 (tW level i' x')
/-- The best word yet. -/
structure MidB (m : List (List Int)) (S L : Nat) (level : List Tr) (i x : Nat) (best : Option (List Int)) : Prop where
  ok : ∀ b, best = some b → WDm m b ∧ b.length = L + 1 ∧ szS S < szS (preWord m S b)
  done : ∀ i' x', i' < level.length → DoneP m i x i' x' → szS S < szS (tS m level i' x') → ∃ b, best = some b ∧ SLe b (tW level i' x')
section
variable {m : List (List Int)} {S L : Nat} {met : Nat → Bool} {level nl : List Tr} {i x : Nat} {best : Option (List Int)}
theorem getD_memT {l : List Tr} {i : Nat} (h : i < l.length) : l.getD i (0, []) ∈ l := by
  rw [List.getD_eq_getElem?_getD, List.getElem?_eq_getElem h]
  exact List.getElem_mem h
theorem LevR.pair (h : LevR m S L met level) (hi : i < level.length) (hx : x < letters m) : WDm m (tW level i x) ∧ (tW level i x).length = L + 1 ∧ tS m level i x = preWord m S (tW level i x) := by
  obtain ⟨a, b, c⟩ := h.ok _ (getD_memT hi)
  refine ⟨a.cons hx, by unfold tW; rw [List.length_cons, b], ?_⟩
  unfold tS tW
  rw [preWord_cons, ← c]
theorem DoneP.next {i x i' x' : Nat} (h : DoneP m i (x + 1) i' x') : DoneP m i x i' x' ∨ (i' = i ∧ x' = x) := by
  obtain ⟨h1, h2 | ⟨h2, h3⟩⟩ := h
  · exact .inl ⟨h1, .inl h2⟩
  · by_cases e : x' = x
    · exact .inr ⟨h2, e⟩
    · exact .inl ⟨h1, .inr ⟨h2, by omega⟩⟩
theorem DoneP.row {i i' x' : Nat} (h : DoneP m (i + 1) 0 i' x') : DoneP m i (letters m) i' x' := by
  obtain ⟨h1, h2 | ⟨h2, h3⟩⟩ := h
  · refine ⟨h1, ?_⟩
    by_cases e : i' = i
    · exact .inr ⟨e, h1⟩
    · exact .inl (by omega)
  · omega
theorem DoneP.zero {i' x' : Nat} (h : DoneP m 0 0 i' x') : False := by
  obtain ⟨_, h | ⟨_, h⟩⟩ := h <;> omega
theorem MidN.start : MidN m S L level met 0 0 [] := ⟨fun t ht => by simp at ht, fun j k _ hk => by simp at hk, fun i' x' _ hd => hd.zero.elim⟩
theorem MidB.start : MidB m S L level 0 0 none := ⟨fun b hb => absurd hb (fun e => nomatch e), fun i' x' _ hd => hd.zero.elim⟩
theorem MidN.row (h : MidN m S L level met i (letters m) nl) : MidN m S L level met (i + 1) 0 nl := ⟨h.ok, h.dist, fun i' x' hi hd => h.done i' x' hi hd.row⟩
theorem MidB.row (h : MidB m S L level i (letters m) best) : MidB m S L level (i + 1) 0 best := ⟨h.ok, fun i' x' hi hd => h.done i' x' hi hd.row⟩
/-- The set was met in an earlier level. -/
theorem MidN.old (h : MidN m S L level met i x nl) (ho : met (tS m level i x) = true) : MidN m S L level met i (x + 1) nl := ⟨h.ok, h.dist, fun i' x' hi hd => by
  rcases hd.next with hd | ⟨rfl, rfl⟩
  · exact h.done i' x' hi hd
  · exact .inl ho⟩
theorem MidN.add (hL : LevR m S L met level) (h : MidN m S L level met i x nl) (hi : i < level.length) (hx : x < letters m) (hn : met (tS m level i x) = false) (hnot : ∀ t ∈ nl, t.1 ≠ tS m level i x) : MidN m S L level met i (x + 1) (nl ++ [(tS m level i x, tW level i x)]) := by
  obtain ⟨a, b, c⟩ := hL.pair hi hx
  refine ⟨fun t ht => ?_, fun j k hjk hk => ?_, fun i' x' hi' hd => ?_⟩
  · rcases List.mem_append.1 ht with ht | ht
    · exact h.ok t ht
    · obtain rfl : t = (tS m level i x, tW level i x) := by simpa using ht
      exact ⟨a, b, c, hn⟩
  · simp only [List.length_append, List.length_cons, List.length_nil] at hk
    have ej : (nl ++ [(tS m level i x, tW level i x)]).getD j (0, []) = nl.getD j (0, []) := by simp [List.getD_eq_getElem?_getD, List.getElem?_append_left (show j < nl.length by omega)]
    rw [ej]
    by_cases hkl : k < nl.length
    · have ek : (nl ++ [(tS m level i x, tW level i x)]).getD k (0, []) = nl.getD k (0, []) := by simp [List.getD_eq_getElem?_getD, List.getElem?_append_left hkl]
      rw [ek]; exact h.dist j k hjk hkl
    · obtain rfl : k = nl.length := by omega
      have ek : (nl ++ [(tS m level i x, tW level i x)]).getD nl.length (0, []) = (tS m level i x, tW level i x) := by simp [List.getD_eq_getElem?_getD]
      rw [ek]; exact hnot _ (getD_memT hjk)
  · rcases hd.next with hd | ⟨rfl, rfl⟩
    · exact (h.done i' x' hi' hd).imp id fun ⟨t, h1, h2⟩ => ⟨t, by simp [h1], h2⟩
    · exact .inr ⟨(tS m level i' x', tW level i' x'), by simp, rfl, .inl rfl⟩
theorem MidN.keep (hL : LevR m S L met level) (h : MidN m S L level met i x nl) (hi : i < level.length) (hx : x < letters m) {k : Nat} (hk : k < nl.length) (hkt : (nl.getD k (0, [])).1 = tS m level i x) (hb : befB (tW level i x) (nl.getD k (0, [])).2 = false) : MidN m S L level met i (x + 1) nl := ⟨h.ok, h.dist, fun i' x' hi' hd => by
  rcases hd.next with hd | ⟨rfl, rfl⟩
  · exact h.done i' x' hi' hd
  · refine .inr ⟨_, getD_memT hk, hkt, SLe.of_no ?_ hb⟩
    rw [(hL.pair hi hx).2.1, (h.ok _ (getD_memT hk)).2.1]⟩
theorem setT_getD {l : List Tr} {k j : Nat} {e : Tr} (hk : k < l.length) : (l.set k e).getD j (0, []) = if j = k then e else l.getD j (0, []) := by
  rw [List.getD_eq_getElem?_getD, List.getD_eq_getElem?_getD, List.getElem?_set]
  by_cases h : k = j
  · subst h; simp [hk]
  · simp [h, show ¬ j = k from fun e => h e.symm]
theorem MidN.better (hL : LevR m S L met level) (h : MidN m S L level met i x nl) (hi : i < level.length) (hx : x < letters m) {k : Nat} (hk : k < nl.length) (hkt : (nl.getD k (0, [])).1 = tS m level i x) (hb : befB (tW level i x) (nl.getD k (0, [])).2 = true) : MidN m S L level met i (x + 1) (nl.set k (tS m level i x, tW level i x)) := by
  obtain ⟨a, b, c⟩ := hL.pair hi hx
  obtain ⟨o1, o2, o3, o4⟩ := h.ok _ (getD_memT hk)
  have hset : ∀ t, t ∈ nl.set k (tS m level i x, tW level i x) → t ∈ nl ∨ t = (tS m level i x, tW level i x) := fun t ht => List.mem_or_eq_of_mem_set ht
  have hfst : ∀ j, ((nl.set k (tS m level i x, tW level i x)).getD j (0, [])).1 = (nl.getD j (0, [])).1 := fun j => by
    rw [setT_getD hk]
    by_cases e : j = k
    · rw [if_pos e, e, hkt]
    · rw [if_neg e]
  refine ⟨fun t ht => ?_, fun j k' hjk hk' => ?_, fun i' x' hi' hd => ?_⟩
  · rcases hset t ht with ht | rfl
    · exact h.ok t ht
    · exact ⟨a, b, c, by rw [← hkt]; exact o4⟩
  · rw [hfst, hfst]; exact h.dist j k' hjk (by simpa using hk')
  · have hin : (tS m level i x, tW level i x) ∈ nl.set k (tS m level i x, tW level i x) := List.mem_set hk _
    have hle : SLe (tW level i x) (nl.getD k (0, [])).2 := SLe.of_yes (by rw [b, o2]) hb
    rcases hd.next with hd | ⟨rfl, rfl⟩
    · refine (h.done i' x' hi' hd).imp id fun ⟨t, h1, h2, h3⟩ => ?_
      obtain ⟨j, hj, rfl⟩ := List.mem_iff_getElem.1 h1
      by_cases e : j = k
      · subst e
        have eg : nl.getD j (0, []) = nl[j] := by rw [List.getD_eq_getElem?_getD, List.getElem?_eq_getElem hj]; rfl
        rw [eg] at hkt hle
        exact ⟨_, hin, by rw [← h2, hkt], hle.trans h3⟩
      · refine ⟨nl[j], ?_, h2, h3⟩
        rw [List.mem_iff_getElem]
        exact ⟨j, by simpa using hj, by rw [List.getElem_set_ne (fun e2 => e e2.symm)]⟩
    · exact .inr ⟨_, hin, rfl, .inl rfl⟩
theorem MidB.less (h : MidB m S L level i x best) (hs : ¬ szS S < szS (tS m level i x)) : MidB m S L level i (x + 1) best := ⟨h.ok, fun i' x' hi hd hb => by
  rcases hd.next with hd | ⟨rfl, rfl⟩
  · exact h.done i' x' hi hd hb
  · exact absurd hb hs⟩
theorem MidB.keep (hL : LevR m S L met level) (h : MidB m S L level i x best) (hi : i < level.length) (hx : x < letters m) {b : List Int} (hb : best = some b) (hn : befB (tW level i x) b = false) : MidB m S L level i (x + 1) best := ⟨h.ok, fun i' x' hi' hd hs => by
  rcases hd.next with hd | ⟨rfl, rfl⟩
  · exact h.done i' x' hi' hd hs
  · exact ⟨b, hb, SLe.of_no (by rw [(hL.pair hi hx).2.1, (h.ok b hb).2.1]) hn⟩⟩
theorem MidB.take (hL : LevR m S L met level) (h : MidB m S L level i x best) (hi : i < level.length) (hx : x < letters m) (hs : szS S < szS (tS m level i x)) (hb : ∀ b, best = some b → befB (tW level i x) b = true) : MidB m S L level i (x + 1) (some (tW level i x)) := by
  obtain ⟨a, b, c⟩ := hL.pair hi hx
  refine ⟨fun b' hb' => ?_, fun i' x' hi' hd hs' => ?_⟩
  · obtain rfl : tW level i x = b' := by simpa using hb'
    exact ⟨a, b, by rw [← c]; exact hs⟩
  · refine ⟨_, rfl, ?_⟩
    rcases hd.next with hd | ⟨rfl, rfl⟩
    · obtain ⟨b', h1, h2⟩ := h.done i' x' hi' hd hs'
      exact (SLe.of_yes (by rw [b, (h.ok b' h1).2.1]) (hb b' h1)).trans h2
    · exact .inl rfl
/-- All pairs are done: what each word of one letter more comes to. -/
theorem LevR.word (hL : LevR m S L met level) {w : List Int} (hw : WDm m w) (hl : w.length = L + 1) : (∃ v, WDm m v ∧ v.length ≤ L ∧ preWord m S v = preWord m S w) ∨
    ∃ i x, i < level.length ∧ DoneP m level.length 0 i x ∧ tS m level i x = preWord m S w ∧ SLe (tW level i x) w := by
  cases w with
  | nil => simp at hl
  | cons yi v =>
    have hyi := hw yi (by simp)
    obtain ⟨y, rfl⟩ := Int.eq_ofNat_of_zero_le hyi.1
    have hvw : WDm m v := fun z hz => hw z (by simp [hz])
    have hvl : v.length = L := by simpa using hl
    have hyl : y < letters m := by omega
    rcases hL.all v hvw hvl with ⟨v', a1, a2, a3⟩ | ⟨t, a1, a2, a3⟩
    · exact .inl ⟨(y : Int) :: v', a1.cons hyl, by simp; omega, by rw [preWord_cons, preWord_cons, a3]⟩
    · obtain ⟨i, hi, rfl⟩ := List.mem_iff_getElem.1 a1
      have eg : level.getD i (0, []) = level[i] := by rw [List.getD_eq_getElem?_getD, List.getElem?_eq_getElem hi]; rfl
      refine .inr ⟨i, y, hi, ⟨hyl, .inl hi⟩, ?_, ?_⟩
      · unfold tS; rw [eg, a2, preWord_cons]
      · unfold tW; rw [eg]; exact a3.cons _
theorem MidB.first (hL : LevR m S L met level) {b : List Int} (h : MidB m S L level level.length 0 (some b)) : FirstBig m S b := by
  obtain ⟨a, l, c⟩ := h.ok b rfl
  refine ⟨a, c, fun w hw hb => ?_⟩
  rcases Nat.lt_trichotomy w.length (L + 1) with hl | hl | hl
  · exact absurd hb (hL.small w hw (by omega))
  · rcases hL.word hw hl with ⟨v, v1, v2, v3⟩ | ⟨i, x, h1, h2, h3, h4⟩
    · exact absurd (by rw [v3]; exact hb) (hL.small v v1 v2)
    · obtain ⟨b', h5, h6⟩ := h.done i x h1 h2 (by rw [h3]; exact hb)
      obtain rfl : b = b' := by simpa using h5
      exact h6.trans h4
  · exact .inr (.inl (by omega))
theorem MidN.lev (hL : LevR m S L met level) (h : MidN m S L level met level.length 0 nl) (hB : MidB m S L level level.length 0 none) : LevR m S (L + 1) (fun T => met T || nl.any fun t => t.1 == T) nl := by
  have key : ∀ w, WDm m w → w.length = L + 1 → ¬ szS S < szS (preWord m S w) ∧ ((∃ v, WDm m v ∧ v.length ≤ L ∧ preWord m S v = preWord m S w) ∨ ∃ t ∈ nl, t.1 = preWord m S w ∧ SLe t.2 w) := fun w hw hl => by
    rcases hL.word hw hl with ⟨v, v1, v2, v3⟩ | ⟨i, x, h1, h2, h3, h4⟩
    · exact ⟨by rw [← v3]; exact hL.small v v1 v2, .inl ⟨v, v1, v2, v3⟩⟩
    · refine ⟨fun hb => ?_, ?_⟩
      · obtain ⟨b', h5, _⟩ := hB.done i x h1 h2 (by rw [h3]; exact hb)
        cases h5
      · rcases h.done i x h1 h2 with h5 | ⟨t, h5, h6, h7⟩
        · obtain ⟨v, v1, v2, v3⟩ := (hL.seen _).1 h5
          exact .inl ⟨v, v1, v2, by rw [v3, h3]⟩
        · exact .inr ⟨t, h5, by rw [h6, h3], h7.trans h4⟩
  refine ⟨fun t ht => ?_, fun T => ?_, fun w hw hl => ?_, fun w hw hl => ?_⟩
  · obtain ⟨a, b, c, _⟩ := h.ok t ht
    exact ⟨a, b, c⟩
  · rw [Bool.or_eq_true, List.any_eq_true]
    constructor
    · rintro (h1 | ⟨t, h1, h2⟩)
      · obtain ⟨w, a, b, c⟩ := (hL.seen T).1 h1
        exact ⟨w, a, by omega, c⟩
      · obtain ⟨a, b, c, _⟩ := h.ok t h1
        exact ⟨t.2, a, by omega, by rw [← c]; exact beq_iff_eq.1 h2⟩
    · rintro ⟨w, a, b, c⟩
      by_cases e : w.length = L + 1
      · rcases (key w a e).2 with ⟨v, d1, d2, d3⟩ | ⟨t, d1, d2, _⟩
        · exact .inl ((hL.seen T).2 ⟨v, d1, d2, by rw [d3]; exact c⟩)
        · exact .inr ⟨t, d1, by rw [d2, c]; simp⟩
      · exact .inl ((hL.seen T).2 ⟨w, a, by omega, c⟩)
  · rcases (key w hw hl).2 with ⟨v, d1, d2, d3⟩ | h1
    · exact .inl ⟨v, d1, by omega, d3⟩
    · exact .inr h1
  · by_cases e : w.length = L + 1
    · exact (key w hw e).1
    · exact hL.small w hw (by omega)
theorem LevR.start (m : List (List Int)) (S : Nat) : LevR m S 0 (fun T => T == S) [(S, [])] := by
  refine ⟨fun t ht => ?_, fun T => ?_, fun w _ hl => ?_, fun w _ hl => ?_⟩
  · obtain rfl : t = (S, []) := by simpa using ht
    exact ⟨fun x hx => by simp at hx, rfl, rfl⟩
  · constructor
    · intro h
      exact ⟨[], fun x hx => by simp at hx, by simp, (beq_iff_eq.1 h).symm⟩
    · rintro ⟨w, -, b, c⟩
      obtain rfl := List.eq_nil_of_length_eq_zero (Nat.le_zero.1 b)
      rw [← c]; exact beq_self_eq_true _
  · obtain rfl := List.eq_nil_of_length_eq_zero hl
    exact .inr ⟨(S, []), by simp, rfl, .inl rfl⟩
  · obtain rfl := List.eq_nil_of_length_eq_zero (Nat.le_zero.1 hl)
    exact Nat.lt_irrefl _
theorem LevR.none (h : LevR m S L met []) : ∀ w, WDm m w → ¬ szS S < szS (preWord m S w) := by
  have hall : ∀ (n : Nat) (w : List Int), w.length = n → WDm m w → ∃ v, WDm m v ∧ v.length < L ∧ preWord m S v = preWord m S w := by
    intro n
    induction n using Nat.strongRecOn with
    | _ n ih =>
      intro w hl hw
      by_cases h1 : w.length < L
      · exact ⟨w, hw, h1, rfl⟩
      · obtain ⟨d, hd⟩ : ∃ d, w.length = d + L := ⟨w.length - L, by omega⟩
        have hv : WDm m (w.drop d) := fun z hz => hw z (List.mem_of_mem_drop hz)
        have hvl : (w.drop d).length = L := by rw [List.length_drop]; omega
        rcases h.all _ hv hvl with ⟨v', a1, a2, a3⟩ | ⟨t, a1, _⟩
        · have hw2 : WDm m (w.take d ++ v') := fun z hz => by
            rcases List.mem_append.1 hz with hz | hz
            · exact hw z (List.mem_of_mem_take hz)
            · exact a1 z hz
          have hlen : (w.take d ++ v').length < n := by
            rw [List.length_append, List.length_take]; omega
          obtain ⟨v, b1, b2, b3⟩ := ih _ hlen _ rfl hw2
          refine ⟨v, b1, b2, b3.trans ?_⟩
          have e : preWord m S w = preWord m S (w.take d ++ w.drop d) := by rw [List.take_append_drop]
          rw [e]
          unfold preWord at a3 ⊢
          rw [List.foldr_append, List.foldr_append, a3]
        · simp at a1
  intro w hw hb
  obtain ⟨v, a1, a2, a3⟩ := hall _ w rfl hw
  exact h.small v a1 (by omega) (by rw [a3]; exact hb)
end
end Go.Proofs.YtphpablchlpagaaDoor
namespace Go.Proofs.YtphpablchlpagaaDoor
open Go.RowKit Go.Shelf
/-- The set is where some word leads from all states. -/
def RS (m : List (List Int)) (S : Nat) : Prop := S < 2 ^ m.length ∧ ∃ u : List Int, u.all (inB 0 ((letters m : Int) - 1)) = true ∧ imgWord m (2 ^ m.length - 1) u = S
theorem RS.start (m : List (List Int)) : RS m (2 ^ m.length - 1) := ⟨full_lt m, [], rfl, rfl⟩
theorem RS.word {m : List (List Int)} (hv : validM m = true) {S : Nat} (h : RS m S) {w : List Int} (hw : w.all (inB 0 ((letters m : Int) - 1)) = true) : RS m (imgWord m S w) := by
  obtain ⟨h1, u, h2, h3⟩ := h
  refine ⟨imgWord_lt hv w S h1 hw, u ++ w, by rw [List.all_append, h2, hw]; rfl, by rw [imgWord_append, h3]⟩
/-- No two states of the set are merged. -/
def NoMg (m : List (List Int)) (S : Nat) : Prop := ∀ p q, p ∈ elems S → q ∈ elems S → p ≠ q → mlen m p q = -1
theorem mem_of_testBit {S n s : Nat} (hS : S < 2 ^ n) (hn : n ≤ 64) : s ∈ elems S ↔ S.testBit s = true := by
  rw [mem_elems]
  constructor
  · exact fun h => h.2
  · refine fun h => ⟨?_, h⟩
    rcases Nat.lt_or_ge s 64 with h1 | h1
    · exact h1
    · have : 2 ^ n ≤ 2 ^ s := Nat.pow_le_pow_right (by decide) (by omega)
      rw [Nat.testBit_lt_two_pow (by omega)] at h; cases h
/-- No pair of the first i states is merged. -/
def NoTo (m : List (List Int)) (S i : Nat) : Prop := ∀ a b, b < a → a < i → mlen m ((elems S).getD a 0) ((elems S).getD b 0) = -1
theorem NoTo.all {m : List (List Int)} (hv : validM m = true) {S : Nat} (hS : S < 2 ^ m.length) (h : NoTo m S (elems S).length) : NoMg m S := by
  intro p q hp hq hpq
  obtain ⟨i, hi, rfl⟩ := List.mem_iff_getElem.1 hp
  obtain ⟨k, hk, rfl⟩ := List.mem_iff_getElem.1 hq
  have e : ∀ a (ha : a < (elems S).length), (elems S).getD a 0 = (elems S)[a] := fun a ha => by simp [List.getD_eq_getElem?_getD, List.getElem?_eq_getElem ha]
  rcases Nat.lt_trichotomy i k with h1 | h1 | h1
  · have := h k i h1 hk
    rw [e, e] at this
    rw [mlen_symm hv (elems_lt hS hp) (elems_lt hS hq)]; exact this
  · subst h1; exact absurd rfl hpq
  · have := h i k h1 hi
    rw [e, e] at this
    exact this
end Go.Proofs.YtphpablchlpagaaDoor
namespace Go.Proofs.YtphpablchlpagaaDoor
open Go.RowKit Go.Shelf
/-- Where one letter leads from state 0. -/
def itM (m : List (List Int)) (x : Int) : Nat → Nat
  | 0 => 0
  | i + 1 => nx m (itM m x i) x
def seenM (m : List (List Int)) (x : Int) : Nat → Nat
  | 0 => 0
  | i + 1 => seenM m x i ||| 2 ^ itM m x i
def cycB (m : List (List Int)) (x : Int) : Bool := (itM m x m.length == 0) && (seenM m x m.length == 2 ^ m.length - 1)
theorem itM_lt {m : List (List Int)} (hv : validM m = true) {x : Nat} (hx : x < letters m) : ∀ i, itM m (x : Int) i < m.length
  | 0 => (valid_parts hv).1
  | i + 1 => (nx_ok hv (itM_lt hv hx i) (by omega) (by omega)).1
theorem seenM_lt {m : List (List Int)} (hv : validM m = true) {x : Nat} (hx : x < letters m) : ∀ i, seenM m (x : Int) i < 2 ^ m.length
  | 0 => Nat.two_pow_pos _
  | i + 1 => Nat.or_lt_two_pow (seenM_lt hv hx i) (Nat.pow_lt_pow_right (by decide) (itM_lt hv hx i))
end Go.Proofs.YtphpablchlpagaaDoor
namespace Go.Proofs.YtphpablchlpagaaDoor
open Go.RowKit Go.Shelf
set_option maxRecDepth 100000 in
set_option maxHeartbeats 4000000 in
theorem cycles_any (v : Value) (m : List (List Int)) (x : Nat) (w : World) (h : Rows w v m) (hv : validM m = true) (hx : x < letters m) :
    Calls Tryd.prog 33 #[.agg #[v], .int .i64 x] w fun e w' => e = .returned (.bool (cycB m x)) ∧ Below w.heap.size w w' := by
  obtain ⟨p1, p2, p3, p4, p5⟩ := valid_parts hv
  obtain ⟨A, cap, rfl, hml, hc⟩ := id h
  unfold big at hml
  have hX := bal (Below.refl _ w) (.cells #[.slice A m.length cap] 24)
  have hbx : (w.alloc (.cells #[.slice A m.length cap] 24)).cell? ⟨w.heap.size, 0, none⟩ = some (.slice A m.length cap) := by simp [go_sem]
  have Hc := hid hc
  clear hc
  have hpow : 2 ^ m.length ≤ 2 ^ 60 := Nat.pow_le_pow_right (by decide) p2
  have Hpow := hid hpow
  clear hpow
  go_enter Tryd.func33, Tryd.ntmps33
  go_wp2_with fail
  go_loopw [5, 6, 10] (fun S' s' iv wr => ∃ i : Nat, i ≤ m.length ∧ iv = .int .i64 i ∧ S' = .int .u64 (seenM m x i : Nat) ∧ s' = .int .i64 (itM m x i : Nat) ∧ Below w.heap.size w wr ∧ wr.cell? ⟨w.heap.size, 0, none⟩ = some (.slice A m.length cap)) (fun _ _ iv _ => m.length - (intOf iv).toNat)
  case atStart => exact ⟨0, Nat.zero_le _, rfl, rfl, rfl, hX, hbx⟩
  case round =>
    clear hX hbx
    obtain ⟨i, hi, rfl, rfl, rfl, hB, hbx⟩ := hrel
    have hs := itM_lt hv hx i
    have hS := seenM_lt hv hx i
    have hS64 : seenM m x i < 2 ^ 64 := by have := Hpow.out; omega
    by_cases hlt : i < m.length
    · have hii : (i : Int) < m.length := by omega
      have hid' : decide (i < m.length) = true := decide_eq_true hlt
      have hn1 : seenM m x (i + 1) = seenM m x i ||| 2 ^ itM m x i := rfl
      have hn2 : itM m x (i + 1) = nx m (itM m x i) x := rfl
      have Hn1 := hid hn1
      have Hn2 := hid hn2
      clear hn1 hn2
      generalize seenM m x i = S at *
      generalize itM m x i = s at *
      obtain ⟨b, off, r, hA, hcell, hI⟩ := Hc.out s hs
      subst hA
      obtain ⟨As, caps, rfl, hls, hcs⟩ := hI
      have hrl := (p5 s hs).1
      obtain ⟨bs, offs, hAs, hce⟩ := hcs x (by omega)
      subst hAs
      obtain ⟨n1, n2⟩ := nx_ok hv hs (x := (x : Int)) (by omega) (by omega)
      rw [Int.toNat_natCast] at n2
      rw [n2] at hce
      rw [hrl] at hcell
      obtain ⟨q, hq⟩ : ∃ q, nx m s (x : Int) = q := ⟨_, rfl⟩
      rw [hq] at hce
      have Hq := hid hq
      have hcell' := (hB.cell (p := ⟨b, off + s, none⟩) (World.block_lt_of_cell? _ _ hcell)).trans hcell
      have hce' := (hB.cell (p := ⟨bs, offs + x, none⟩) (World.block_lt_of_cell? _ _ hce)).trans hce
      have hss : (s : Int) < m.length := by omega
      have hxx : (x : Int) < letters m := by omega
      clear hcell hce hcs hls hrl hq n2
      go_wp2_with (go_at_call 59; refine (With_any S s _ hS64 (by omega)).mono ?_; rintro e w' ⟨rfl, rfl⟩)
      go_roundw
      case rel => exact ⟨i + 1, by omega, by go_num, by rw [Hn1.out], by rw [Hn2.out, Hq.out], hB, hbx⟩
      case measure => simp [intOf]; omega
    · have hii : ¬ (i : Int) < m.length := by omega
      have hid' : decide (i < m.length) = false := decide_eq_false hlt
      obtain rfl : i = m.length := by omega
      obtain ⟨a, ha⟩ : ∃ a, itM m x m.length = a := ⟨_, rfl⟩
      obtain ⟨S, hS'⟩ : ∃ a, seenM m x m.length = a := ⟨_, rfl⟩
      have hcy : cycB m x = ((a == 0) && (S == 2 ^ m.length - 1)) := by unfold cycB; rw [ha, hS']
      rw [ha, hS'] at *
      have Hcy := hid hcy
      clear ha hS' hcy
      obtain ⟨N, hN⟩ : ∃ N, 2 ^ m.length - 1 = N := ⟨_, rfl⟩
      have HBl := hid (fun W : World => (show Calls Tryd.prog 47 #[.int .i64 m.length] W fun e w' => e = .returned (.int .u64 (N : Nat)) ∧ W = w' from by rw [← hN]; exact Below_any m.length W p2))
      rw [hN] at Hcy
      clear hN
      by_cases a0 : a = 0
      · subst a0
        by_cases s0 : S = N
        · subst s0
          go_wp2_with (go_at_call 47; refine (HBl.out _).mono ?_; rintro e w' ⟨rfl, rfl⟩)
          go_ret
          rw [Hcy.out]
          exact ⟨by simp, hB⟩
        · have s1 : ¬ (S : Int) = N := by omega
          have s2 : ((S : Int) == N) = false := beq_eq_false_iff_ne.2 s1
          have s3 : (S == N) = false := by simpa using s0
          go_wp2_with (go_at_call 47; refine (HBl.out _).mono ?_; rintro e w' ⟨rfl, rfl⟩)
          go_ret
          rw [Hcy.out]
          exact ⟨by simp [s3], hB⟩
      · have a1 : ¬ (a : Int) = 0 := by omega
        have a2 : ((a : Int) == 0) = false := beq_eq_false_iff_ne.2 a1
        have a3 : (a == 0) = false := by simpa using a0
        go_wp2_with (go_at_call 47; refine (HBl.out _).mono ?_; rintro e w' ⟨rfl, rfl⟩)
        go_ret
        rw [Hcy.out]
        exact ⟨by simp [a3], hB⟩
theorem cycles_bool (v : Value) (m : List (List Int)) (x : Nat) (b : Bool) (w : World) (h : Rows w v m) (hv : validM m = true) (hx : x < letters m) (hb : cycB m x = b) :
    Calls Tryd.prog 33 #[.agg #[v], .int .i64 x] w fun e w' => e = .returned (.bool b) ∧ Below w.heap.size w w' := by
  rw [← hb]; exact cycles_any v m x w h hv hx
theorem Eulerian_ok (v : Value) (m : List (List Int)) (b : Bool) (w : World) (h : Rows w v m) (hv : validM m = true) (hb : eulB m = b) :
    Calls Tryd.prog 9 #[.agg #[v]] w fun e w' => e = .returned (.tuple #[.bool b, .int .i64 0]) ∧ Below w.heap.size w w' := by
  have hr := h
  obtain ⟨A, cap, rfl, hml, hc⟩ := h
  clear hc
  have hX := bal (Below.refl _ w) (.cells #[.slice A m.length cap] 24)
  have hbx : (w.alloc (.cells #[.slice A m.length cap] 24)).cell? ⟨w.heap.size, 0, none⟩ = some (.slice A m.length cap) := by simp [go_sem]
  have Hb := hid hb
  clear hb
  go_enter Tryd.func9, Tryd.ntmps9
  go_wp2_with fail
  refine (Valid_bool _ m true _ (hr.below hX) hv).mono ?_
  rintro e w1 ⟨rfl, hb1⟩
  have hbx1 := (hb1.cell (p := ⟨w.heap.size, 0, none⟩) (World.block_lt_of_cell? _ _ hbx)).trans hbx
  have hr1 := hr.below (btr hX hb1)
  go_wp2_with fail
  refine (eulerian_any _ m _ hr1 hv).mono ?_
  rintro e w2 ⟨rfl, hb2⟩
  rw [Hb.out]
  go_wp2_with fail
  go_ret2
  exact ⟨rfl, btr (btr hX hb1) hb2⟩
/-- What Circular returns. -/
def CircIs (m : List (List Int)) (x : Nat) (c : Int) : Prop :=
  (x < letters m ∧ cycB m (x : Int) = true ∧ (∀ y : Nat, y < x → cycB m (y : Int) = false) ∧ c = 0) ∨ ((∀ y : Nat, y < letters m → cycB m (y : Int) = false) ∧ x = 0 ∧ c = 4)
theorem Circular_ok (v : Value) (m : List (List Int)) (w : World) (h : Rows w v m) (hv : validM m = true) :
    Calls Tryd.prog 10 #[.agg #[v]] w fun e w' => ∃ (x : Nat) (c : Int), e = .returned (.tuple #[.int .i64 x, .int .i64 c]) ∧ CircIs m x c ∧ Below w.heap.size w w' := by
  obtain ⟨p1, p2, p3, p4, p5⟩ := valid_parts hv
  have hr := h
  obtain ⟨A, cap, rfl, hml, hc⟩ := h
  obtain ⟨b0, off0, r0, hA, hc0, A0, cap0, hr0, -, -⟩ := hc 0 (by omega)
  subst hA
  subst hr0
  have hc0 : w.cell? ⟨b0, off0, none⟩ = some (.slice A0 (letters m) cap0) := hc0
  clear hc
  have hX := bal (Below.refl _ w) (.cells #[.slice (some ⟨b0, off0, none⟩) m.length cap] 24)
  have hbx : (w.alloc (.cells #[.slice (some ⟨b0, off0, none⟩) m.length cap] 24)).cell? ⟨w.heap.size, 0, none⟩ = some (.slice (some ⟨b0, off0, none⟩) m.length cap) := by simp [go_sem]
  go_enter Tryd.func10, Tryd.ntmps10
  go_wp2_with fail
  refine (Valid_bool _ m true _ (hr.below hX) hv).mono ?_
  rintro e w1 ⟨rfl, hb1⟩
  have hbx1 := (hb1.cell (p := ⟨w.heap.size, 0, none⟩) (World.block_lt_of_cell? _ _ hbx)).trans hbx
  have hB1 := btr hX hb1
  have hc1 := (hB1.cell (p := ⟨b0, off0, none⟩) (World.block_lt_of_cell? _ _ hc0)).trans hc0
  clear hbx hX hb1
  go_wp2_with fail
  go_loopw [13] (fun xv wr => ∃ x : Nat, x ≤ letters m ∧ xv = .int .i64 x ∧ (∀ y : Nat, y < x → cycB m (y : Int) = false) ∧ Below w.heap.size w wr ∧ wr.cell? ⟨w.heap.size, 0, none⟩ = some (.slice (some ⟨b0, off0, none⟩) m.length cap)) (fun xv _ => letters m - (intOf xv).toNat)
  case atStart => exact ⟨0, Nat.zero_le _, rfl, fun y h => by omega, hB1, hbx1⟩
  case round =>
    clear hB1 hbx1 hc1
    obtain ⟨x, hx, rfl, hpre, hB, hbx⟩ := hrel
    have Hpre := hid hpre
    clear hpre
    by_cases hlt : x < letters m
    · have hxx : (x : Int) < letters m := by omega
      have hxd : decide (x < letters m) = true := decide_eq_true hlt
      have hrr := hr.below hB
      cases hcy : cycB m (x : Int) with
      | true =>
        have Hcy := hid hcy
        go_wp2_with fail
        refine (cycles_bool _ m x true _ hrr hv hlt Hcy.out).mono ?_
        rintro e w2 ⟨rfl, hb2⟩
        clear hcy
        go_wp2_with fail
        go_ret2
        exact ⟨x, 0, rfl, .inl ⟨hlt, Hcy.out, Hpre.out, rfl⟩, btr hB hb2⟩
      | false =>
        have Hcy := hid hcy
        go_wp2_with fail
        refine (cycles_bool _ m x false _ hrr hv hlt Hcy.out).mono ?_
        rintro e w2 ⟨rfl, hb2⟩
        have hbx2 := (hb2.cell (p := ⟨w.heap.size, 0, none⟩) (World.block_lt_of_cell? _ _ hbx)).trans hbx
        clear hcy
        go_wp2_with fail
        go_roundw
        case rel => exact ⟨x + 1, by omega, by go_num, fun y hy => by
          by_cases e : y = x
          · subst e; exact Hcy.out
          · exact Hpre.out y (by omega), btr hB hb2, hbx2⟩
        case measure => simp [intOf]; omega
    · have hxx : ¬ (x : Int) < letters m := by omega
      have hxd : decide (x < letters m) = false := decide_eq_false hlt
      obtain rfl : x = letters m := by omega
      go_wp2_with fail
      go_ret2
      exact ⟨0, 4, rfl, .inr ⟨Hpre.out, rfl, rfl⟩, hB⟩
end Go.Proofs.YtphpablchlpagaaDoor
namespace Go.Proofs.YtphpablchlpagaaDoor
open Go.RowKit Go.Shelf
def circB (m : List (List Int)) : Bool := (List.range (letters m)).any fun y : Nat => cycB m (y : Int)
theorem CircIs.zero {m : List (List Int)} {x : Nat} {c : Int} (h : CircIs m x c) : (c == 0) = circB m := by
  rcases h with ⟨h1, h2, -, rfl⟩ | ⟨h1, -, rfl⟩
  · have : circB m = true := List.any_eq_true.2 ⟨x, List.mem_range.2 h1, h2⟩
    rw [this]; rfl
  · have : circB m = false := by
      unfold circB
      rw [List.any_eq_false]
      exact fun y hy => by rw [h1 y (List.mem_range.1 hy)]; simp
    rw [this]; rfl
theorem circular_any (v : Value) (m : List (List Int)) (b : Bool) (w : World) (h : Rows w v m) (hv : validM m = true) (hb : circB m = b) :
    Calls Tryd.prog 61 #[.agg #[v]] w fun e w' => e = .returned (.bool b) ∧ Below w.heap.size w w' := by
  have hr := h
  obtain ⟨A, cap, rfl, hml, hc⟩ := h
  clear hc
  have hX := bal (Below.refl _ w) (.cells #[.slice A m.length cap] 24)
  have hbx : (w.alloc (.cells #[.slice A m.length cap] 24)).cell? ⟨w.heap.size, 0, none⟩ = some (.slice A m.length cap) := by simp [go_sem]
  have Hb := hid hb
  clear hb
  go_enter Tryd.func61, Tryd.ntmps61
  go_wp2_with fail
  refine (Circular_ok _ m _ (hr.below hX) hv).mono ?_
  rintro e w1 ⟨x, c, rfl, hC, hb1⟩
  have hcz := hC.zero
  rw [Hb.out] at hcz
  have HC := hid hC
  clear hC
  cases b with
  | true =>
    obtain rfl : c = 0 := by simpa using hcz
    go_wp2_with fail
    go_ret
    exact ⟨rfl, btr hX hb1⟩
  | false =>
    have hc0 : ¬ c = 0 := by simpa using hcz
    go_wp2_with fail
    go_ret
    exact ⟨rfl, btr hX hb1⟩
theorem holds3_any (v : Value) (w : World) :
    Calls Tryd.prog 63 #[.agg #[v]] w fun e w' => e = .returned (.bool true) ∧ Below w.heap.size w w' := by
  have hX := bal (Below.refl _ w) (.cells #[v] 24)
  go_enter Tryd.func63, Tryd.ntmps63
  go_wp2_with fail
  go_ret
  exact ⟨rfl, hX⟩
theorem sq_le {n : Nat} (hn : n ≤ 60) : (n : Int) * n ≤ 3600 ∧ 0 ≤ (n : Int) * n := by
  have h1 : n * n ≤ 60 * 60 := Nat.mul_le_mul hn hn
  have e : (n : Int) * n = ((n * n : Nat) : Int) := by simp
  rw [e]; omega
theorem let1_any (n : Nat) (w : World) (hn : n ≤ 60) :
    Calls Tryd.prog 60 #[.int .i64 n] w fun e w' => e = .returned (.int .i64 ((n : Int) * n - 3 * n + 3)) ∧ w' = w := by
  have h := sq_le hn
  have h1 : IntKind.i64.wrap ((n : Int) * n) = (n : Int) * n := IntWalk.i64_in _ (by omega)
  have h2 : IntKind.i64.wrap ((n : Int) * n - 3 * n) = (n : Int) * n - 3 * n := IntWalk.i64_in _ (by omega)
  have h3 : IntKind.i64.wrap ((n : Int) * n - 3 * n + 3) = (n : Int) * n - 3 * n + 3 := IntWalk.i64_in _ (by omega)
  go_enter Tryd.func60, Tryd.ntmps60
  go_wp2_with fail
  go_ret
  exact ⟨rfl, rfl⟩
theorem let2_any (n : Nat) (w : World) (h1 : 1 ≤ n) (hn : n ≤ 60) :
    Calls Tryd.prog 62 #[.int .i64 n] w fun e w' => e = .returned (.int .i64 (((n : Int) - 1) * (n - 1))) ∧ w' = w := by
  obtain ⟨k, rfl⟩ : ∃ k, n = k + 1 := ⟨n - 1, by omega⟩
  have h := sq_le (n := k) (by omega)
  have e0 : ((k + 1 : Nat) : Int) - 1 = k := by omega
  rw [e0]
  have h1 : IntKind.i64.wrap ((k : Int) * k) = (k : Int) * k := IntWalk.i64_in _ (by omega)
  have h2 : IntKind.i64.wrap (((k + 1 : Nat) : Int) - 1) = k := by rw [e0]; exact IntWalk.i64_in _ (by omega)
  generalize hq : (k : Int) * k = q at *
  go_enter Tryd.func62, Tryd.ntmps62
  go_wp2_with fail
  go_ret
  exact ⟨by simp, rfl⟩
theorem let4_any (n : Nat) (w : World) (h1 : 1 ≤ n) (hn : n ≤ 60) :
    Calls Tryd.prog 64 #[.int .i64 n] w fun e w' => e = .returned (.int .i64 (((n * n * n - n) / 6 : Nat) : Int)) ∧ w' = w := by
  have h := sq_le hn
  have hc : n * n * n ≤ 60 * 60 * 60 := Nat.mul_le_mul (Nat.mul_le_mul hn hn) hn
  have hge : n ≤ n * n * n := by
    have := Nat.mul_le_mul (Nat.mul_le_mul h1 h1) (Nat.le_refl n)
    simpa using this
  obtain ⟨q, hq⟩ : ∃ q, n * n * n = q := ⟨_, rfl⟩
  have hq2 : (n : Int) * n * n = (q : Int) := by rw [← hq]; simp
  rw [hq] at hc hge
  rw [show (n * n * n - n) / 6 = (q - n) / 6 by rw [hq]]
  have w1 : IntKind.i64.wrap ((n : Int) * n) = (n : Int) * n := IntWalk.i64_in _ (by omega)
  have w2 : IntKind.i64.wrap ((n : Int) * n * n) = (q : Int) := by rw [hq2]; exact IntWalk.i64_in _ (by omega)
  have hqq := hid hq
  clear hq
  go_enter Tryd.func64, Tryd.ntmps64
  go_wp2_with fail
  go_ret
  refine ⟨?_, rfl⟩
  rw [show (((q - n) / 6 : Nat) : Int) = ((q : Int) - n) / 6 by omega]
  rfl
theorem bounds_any (w : World) :
    Calls Tryd.prog 35 #[] w fun e w' => e = .returned (.slice (some ⟨w.heap.size, 0, none⟩) 3 3) ∧ Below w.heap.size w w' ∧
      w'.cell? ⟨w.heap.size, 0, none⟩ = some (.func (.func 32) #[] #[]) ∧ w'.cell? ⟨w.heap.size, 1, none⟩ = some (.func (.func 60) #[] #[]) ∧
      w'.cell? ⟨w.heap.size, 2, none⟩ = some (.func (.func 61) #[] #[]) ∧ w'.cell? ⟨w.heap.size, 3, none⟩ = some (.func (.func 62) #[] #[]) ∧
      w'.cell? ⟨w.heap.size, 4, none⟩ = some (.func (.func 63) #[] #[]) ∧ w'.cell? ⟨w.heap.size, 5, none⟩ = some (.func (.func 64) #[] #[]) := by
  go_enter Tryd.func35, Tryd.ntmps35
  go_wp2_with fail
  go_ret
  refine ⟨rfl, bal (Below.refl _ w) _, ?_, ?_, ?_, ?_, ?_, ?_⟩
  all_goals simp [go_sem]
theorem eulerian_bool (v : Value) (m : List (List Int)) (b : Bool) (w : World) (h : Rows w v m) (hv : validM m = true) (hb : eulB m = b) :
    Calls Tryd.prog 32 #[.agg #[v]] w fun e w' => e = .returned (.bool b) ∧ Below w.heap.size w w' := by
  rw [← hb]; exact eulerian_any v m w h hv
def lenV : Value → Nat
  | .slice _ n _ => n
  | _ => 0
/-- How many letters suffice. -/
def bndM (m : List (List Int)) : Int := if eulB m = true then (m.length : Int) * m.length - 3 * m.length + 3 else if circB m = true then ((m.length : Int) - 1) * (m.length - 1) else (((m.length * m.length * m.length - m.length) / 6 : Nat) : Int)
def BoundRes (w : World) (x c : Int) (e : Ending) (w' : World) : Prop := e = .returned (.tuple #[.int .i64 x, .int .i64 c]) ∧ Below w.heap.size w w'
theorem Bound_none (v : Value) (m : List (List Int)) (w : World) (h : Rows w v m) (hv : validM m = true) (hno : ¬ allMerge m) :
    Calls Tryd.prog 11 #[.agg #[v]] w (BoundRes w 0 4) := by
  have hr := h
  obtain ⟨A, cap, rfl, hml, hc⟩ := h
  clear hc
  have hX := bal (Below.refl _ w) (.cells #[.slice A m.length cap] 24)
  have hbx : (w.alloc (.cells #[.slice A m.length cap] 24)).cell? ⟨w.heap.size, 0, none⟩ = some (.slice A m.length cap) := by simp [go_sem]
  have hne : (apartL m).length ≠ 0 := fun e => hno ((apartL_nil hv).1 (List.eq_nil_of_length_eq_zero e))
  have HP := hid (fun W hW => Apart_ok (.slice A m.length cap) m W hW hv)
  generalize apartL m = L at *
  have d1 : (0 : Int) < L.length := by omega
  have d2 : decide ((0 : Int) < L.length) = true := decide_eq_true d1
  have d3 : decide (0 < L.length) = true := decide_eq_true (by omega)
  go_enter Tryd.func11, Tryd.ntmps11
  go_wp2_with fail
  refine (HP.out _ (hr.below hX)).mono ?_
  rintro e w1 ⟨r, rfl, ho, hb1⟩
  obtain ⟨A4, c4, rfl⟩ := ownsRow_slice ho
  clear ho
  go_wp2_with fail
  go_ret2
  exact ⟨rfl, btr hX hb1⟩
set_option maxRecDepth 100000 in
set_option maxHeartbeats 8000000 in
theorem Bound_ok (v : Value) (m : List (List Int)) (w : World) (h : Rows w v m) (hv : validM m = true) (hall : allMerge m) :
    Calls Tryd.prog 11 #[.agg #[v]] w (BoundRes w (bndM m) 0) := by
  obtain ⟨p1, p2, -⟩ := valid_parts hv
  have hr := h
  obtain ⟨A, cap, rfl, hml, hc⟩ := h
  clear hc
  have hX := bal (Below.refl _ w) (.cells #[.slice A m.length cap] 24)
  have hbx : (w.alloc (.cells #[.slice A m.length cap] 24)).cell? ⟨w.heap.size, 0, none⟩ = some (.slice A m.length cap) := by simp [go_sem]
  have HP := hid (fun W hW => by
    have := Apart_ok (.slice A m.length cap) m W hW hv
    rw [(apartL_nil hv).2 hall] at this
    exact this)
  go_enter Tryd.func11, Tryd.ntmps11
  go_wp2_with fail
  refine (HP.out _ (hr.below hX)).mono ?_
  rintro e w1 ⟨r, rfl, ho, hb1⟩
  obtain ⟨A4, c4, rfl⟩ := ownsRow_slice ho
  have hbx1 := (hb1.cell (p := ⟨w.heap.size, 0, none⟩) (World.block_lt_of_cell? _ _ hbx)).trans hbx
  have hB1 := btr hX hb1
  clear ho hbx hX hb1
  go_wp2_with fail
  refine (bounds_any _).mono ?_
  rintro e w2 ⟨rfl, hb2, c0, c1, c2, c3, c4, c5⟩
  have hbx2 := (hb2.cell (p := ⟨w.heap.size, 0, none⟩) (World.block_lt_of_cell? _ _ hbx1)).trans hbx1
  have hB2 := btr hB1 hb2
  have hB0 := hB1.size
  generalize w1.heap.size = B at *
  clear hbx1 hB1 hb2
  go_wp2_with fail
  go_loopw [6] (fun lv wr => (lv = .slice (some ⟨B, 0, none⟩) 3 3 ∨ (eulB m = false ∧ lv = .slice (some ⟨B, 2, none⟩) 2 2) ∨ (eulB m = false ∧ circB m = false ∧ lv = .slice (some ⟨B, 4, none⟩) 1 1)) ∧ Below w2.heap.size w2 wr) (fun lv _ => lenV lv)
  case atStart => exact ⟨.inl rfl, Below.refl _ _⟩
  case round =>
    obtain ⟨hk, hB⟩ := hrel
    have hbx := (hB.cell (p := ⟨w.heap.size, 0, none⟩) (World.block_lt_of_cell? _ _ hbx2)).trans hbx2
    have q0 := (hB.cell (p := ⟨B, 0, none⟩) (World.block_lt_of_cell? _ _ c0)).trans c0
    have q1 := (hB.cell (p := ⟨B, 1, none⟩) (World.block_lt_of_cell? _ _ c1)).trans c1
    have q2 := (hB.cell (p := ⟨B, 2, none⟩) (World.block_lt_of_cell? _ _ c2)).trans c2
    have q3 := (hB.cell (p := ⟨B, 3, none⟩) (World.block_lt_of_cell? _ _ c3)).trans c3
    have q4 := (hB.cell (p := ⟨B, 4, none⟩) (World.block_lt_of_cell? _ _ c4)).trans c4
    have q5 := (hB.cell (p := ⟨B, 5, none⟩) (World.block_lt_of_cell? _ _ c5)).trans c5
    have hBw := btr hB2 hB
    have hrr := hr.below hBw
    have HB2 := hid hB2
    clear hbx2 c0 c1 c2 c3 c4 c5 hB2
    obtain ⟨wo, rfl⟩ : ∃ wo : World, wo = wr := ⟨_, rfl⟩
    rcases hk with rfl | ⟨he, rfl⟩ | ⟨he, hcf, rfl⟩
    · cases hb : eulB m with
      | true =>
        have Hb := hid hb
        clear hb
        go_upto_region 7 with fail
        go_cut [25] from 19 to 25 (fun t wc => t = .bool (!true) ∧ Below wo.heap.size wo wc)
        case first =>
          go_region_held (fun w' => Below wo.heap.size wo w' ∧ w'.cell? ⟨w.heap.size, 0, none⟩ = some (.slice A m.length cap) ∧ w'.cell? ⟨B, 0, none⟩ = some (.func (.func 32) #[] #[])) (exact held_pair hbx q0 (by first | exact below_dr wo 1 | assumption)) (first
            | (go_at_call 32; go_must (refine (eulerian_bool _ m true _ (hrr.below (by first | exact below_dr wo 1 | exact Below.refl _ _)) hv Hb.out).mono ?_; rintro e y1 ⟨rfl, hy1⟩; have k1 : Below wo.heap.size wo y1 := btr (by first | exact below_dr wo 1 | exact Below.refl _ _) hy1)))
          all_goals (go_wp2_with fail; go_meet; exact ⟨rfl, k1⟩)
        case rest =>
          obtain ⟨rfl, C0⟩ := hcut
          have d0 := (C0.cell (p := ⟨w.heap.size, 0, none⟩) (World.block_lt_of_cell? _ _ hbx)).trans hbx
          have d1 := (C0.cell (p := ⟨B, 1, none⟩) (World.block_lt_of_cell? _ _ q1)).trans q1
          obtain ⟨wz, rfl⟩ : ∃ wz : World, wz = wc := ⟨_, rfl⟩
          go_upto_region 9 with fail
          go_region_held (fun w' => Below wz.heap.size wz w' ∧ w'.cell? ⟨w.heap.size, 0, none⟩ = some (.slice A m.length cap) ∧ w'.cell? ⟨B, 1, none⟩ = some (.func (.func 60) #[] #[])) (exact held_pair d0 d1 (by first | exact below_dr wz 1 | assumption)) (first
            | (go_at_call 60; go_must (refine (let1_any m.length _ p2).mono ?_; rintro e y1 ⟨rfl, hy1⟩; have k1 : Below wz.heap.size wz y1 := (by rw [hy1]; first | exact below_dr wz 1 | exact Below.refl _ _); clear hy1)))
          all_goals (go_wp2_with fail; go_ret2; exact ⟨by rw [show bndM m = _ from if_pos Hb.out]; rfl, btr hBw (btr C0 k1)⟩)
      | false =>
        have Hb := hid hb
        clear hb
        go_upto_region 7 with fail
        go_cut [25] from 19 to 25 (fun t wc => t = .bool (!false) ∧ Below wo.heap.size wo wc)
        case first =>
          go_region_held (fun w' => Below wo.heap.size wo w' ∧ w'.cell? ⟨w.heap.size, 0, none⟩ = some (.slice A m.length cap) ∧ w'.cell? ⟨B, 0, none⟩ = some (.func (.func 32) #[] #[])) (exact held_pair hbx q0 (by first | exact below_dr wo 1 | assumption)) (first
            | (go_at_call 32; go_must (refine (eulerian_bool _ m false _ (hrr.below (by first | exact below_dr wo 1 | exact Below.refl _ _)) hv Hb.out).mono ?_; rintro e y1 ⟨rfl, hy1⟩; have k1 : Below wo.heap.size wo y1 := btr (by first | exact below_dr wo 1 | exact Below.refl _ _) hy1)))
          all_goals (go_wp2_with fail; go_meet; exact ⟨rfl, k1⟩)
        case rest =>
          obtain ⟨rfl, C0⟩ := hcut
          go_wp2_with fail
          go_roundw
          case rel => exact ⟨.inr (.inl ⟨by first | trivial | exact Hb.out, rfl⟩), btr hB C0⟩
          case measure => simp [lenV]
    · have He := hid he
      clear he
      cases hb : circB m with
      | true =>
        have Hb := hid hb
        clear hb
        go_upto_region 7 with fail
        go_cut [25] from 19 to 25 (fun t wc => t = .bool (!true) ∧ Below wo.heap.size wo wc)
        case first =>
          go_region_held (fun w' => Below wo.heap.size wo w' ∧ w'.cell? ⟨w.heap.size, 0, none⟩ = some (.slice A m.length cap) ∧ w'.cell? ⟨B, 2, none⟩ = some (.func (.func 61) #[] #[])) (exact held_pair hbx q2 (by first | exact below_dr wo 1 | assumption)) (first
            | (go_at_call 61; go_must (refine (circular_any _ m true _ (hrr.below (by first | exact below_dr wo 1 | exact Below.refl _ _)) hv Hb.out).mono ?_; rintro e y1 ⟨rfl, hy1⟩; have k1 : Below wo.heap.size wo y1 := btr (by first | exact below_dr wo 1 | exact Below.refl _ _) hy1)))
          all_goals (go_wp2_with fail; go_meet; exact ⟨rfl, k1⟩)
        case rest =>
          obtain ⟨rfl, C0⟩ := hcut
          have d0 := (C0.cell (p := ⟨w.heap.size, 0, none⟩) (World.block_lt_of_cell? _ _ hbx)).trans hbx
          have d1 := (C0.cell (p := ⟨B, 3, none⟩) (World.block_lt_of_cell? _ _ q3)).trans q3
          obtain ⟨wz, rfl⟩ : ∃ wz : World, wz = wc := ⟨_, rfl⟩
          go_upto_region 9 with fail
          go_region_held (fun w' => Below wz.heap.size wz w' ∧ w'.cell? ⟨w.heap.size, 0, none⟩ = some (.slice A m.length cap) ∧ w'.cell? ⟨B, 3, none⟩ = some (.func (.func 62) #[] #[])) (exact held_pair d0 d1 (by first | exact below_dr wz 1 | assumption)) (first
            | (go_at_call 62; go_must (refine (let2_any m.length _ p1 p2).mono ?_; rintro e y1 ⟨rfl, hy1⟩; have k1 : Below wz.heap.size wz y1 := (by rw [hy1]; first | exact below_dr wz 1 | exact Below.refl _ _); clear hy1)))
          all_goals (go_wp2_with fail; go_ret2; exact ⟨by rw [show bndM m = _ from (if_neg (by rw [He.out]; decide)).trans (if_pos Hb.out)]; rfl, btr hBw (btr C0 k1)⟩)
      | false =>
        have Hb := hid hb
        clear hb
        go_upto_region 7 with fail
        go_cut [25] from 19 to 25 (fun t wc => t = .bool (!false) ∧ Below wo.heap.size wo wc)
        case first =>
          go_region_held (fun w' => Below wo.heap.size wo w' ∧ w'.cell? ⟨w.heap.size, 0, none⟩ = some (.slice A m.length cap) ∧ w'.cell? ⟨B, 2, none⟩ = some (.func (.func 61) #[] #[])) (exact held_pair hbx q2 (by first | exact below_dr wo 1 | assumption)) (first
            | (go_at_call 61; go_must (refine (circular_any _ m false _ (hrr.below (by first | exact below_dr wo 1 | exact Below.refl _ _)) hv Hb.out).mono ?_; rintro e y1 ⟨rfl, hy1⟩; have k1 : Below wo.heap.size wo y1 := btr (by first | exact below_dr wo 1 | exact Below.refl _ _) hy1)))
          all_goals (go_wp2_with fail; go_meet; exact ⟨rfl, k1⟩)
        case rest =>
          obtain ⟨rfl, C0⟩ := hcut
          go_wp2_with fail
          go_roundw
          case rel => exact ⟨.inr (.inr ⟨by first | trivial | exact He.out, by first | trivial | exact Hb.out, rfl⟩), btr hB C0⟩
          case measure => simp [lenV]
    · have He := hid he
      have Hf := hid hcf
      clear he hcf
      go_upto_region 7 with fail
      go_cut [25] from 19 to 25 (fun t wc => t = .bool (!true) ∧ Below wo.heap.size wo wc)
      case first =>
        go_region_held (fun w' => Below wo.heap.size wo w' ∧ w'.cell? ⟨w.heap.size, 0, none⟩ = some (.slice A m.length cap) ∧ w'.cell? ⟨B, 4, none⟩ = some (.func (.func 63) #[] #[])) (exact held_pair hbx q4 (by first | exact below_dr wo 1 | assumption)) (first
          | (go_at_call 63; go_must (refine (holds3_any _ _).mono ?_; rintro e y1 ⟨rfl, hy1⟩; have k1 : Below wo.heap.size wo y1 := btr (by first | exact below_dr wo 1 | exact Below.refl _ _) hy1)))
        all_goals (go_wp2_with fail; go_meet; exact ⟨rfl, k1⟩)
      case rest =>
        obtain ⟨rfl, C0⟩ := hcut
        have d0 := (C0.cell (p := ⟨w.heap.size, 0, none⟩) (World.block_lt_of_cell? _ _ hbx)).trans hbx
        have d1 := (C0.cell (p := ⟨B, 5, none⟩) (World.block_lt_of_cell? _ _ q5)).trans q5
        obtain ⟨wz, rfl⟩ : ∃ wz : World, wz = wc := ⟨_, rfl⟩
        go_upto_region 9 with fail
        go_region_held (fun w' => Below wz.heap.size wz w' ∧ w'.cell? ⟨w.heap.size, 0, none⟩ = some (.slice A m.length cap) ∧ w'.cell? ⟨B, 5, none⟩ = some (.func (.func 64) #[] #[])) (exact held_pair d0 d1 (by first | exact below_dr wz 1 | assumption)) (first
          | (go_at_call 64; go_must (refine (let4_any m.length _ p1 p2).mono ?_; rintro e y1 ⟨rfl, hy1⟩; have k1 : Below wz.heap.size wz y1 := (by rw [hy1]; first | exact below_dr wz 1 | exact Below.refl _ _); clear hy1)))
        all_goals (go_wp2_with fail; go_ret2; exact ⟨by rw [show bndM m = _ from (if_neg (by rw [He.out]; decide)).trans (if_neg (by rw [Hf.out]; decide))]; rfl, btr hBw (btr C0 k1)⟩)
end Go.Proofs.YtphpablchlpagaaDoor
namespace Go.Proofs.YtphpablchlpagaaDoor
open Go.RowKit Go.Shelf
def m6a : List (List Int) := [[1, 0], [2, 1], [0, 2]]
def m6b : List (List Int) := [[0, 1], [0, 2], [1, 2]]
theorem m6a_valid : validM m6a = true := by decide +kernel
theorem m6b_valid : validM m6b = true := by decide +kernel
theorem m6a_eul : eulB m6a = true := by decide +kernel
theorem m6a_cyc : cycB m6a ((0 : Nat) : Int) = true := by decide +kernel
theorem m6a_apart : (apartL m6a).length ≠ 0 := by decide +kernel
theorem m6b_apart : apartL m6b = [] := by decide +kernel
theorem m6b_bnd : bndM m6b = 3 := by decide +kernel
theorem m6a_none : ¬ allMerge m6a := fun h => m6a_apart (by rw [(apartL_nil m6a_valid).2 h]; rfl)
theorem m6b_all : allMerge m6b := (apartL_nil m6b_valid).1 m6b_apart
theorem m6b_big : szS 1 < szS (preWord m6b 1 [0]) := by decide +kernel
theorem m6b_first {u : List Int} (h : FirstBig m6b 1 u) : u = [0] := by
  obtain ⟨h1, h2, h3⟩ := h
  rcases h3 [0] (fun x hx => by
    obtain rfl : x = 0 := by simpa using hx
    exact ⟨by decide, by decide +kernel⟩) m6b_big with e | e | ⟨e, k⟩
  · exact e
  · obtain rfl : u = [] := List.eq_nil_of_length_eq_zero (by simpa using e)
    exact absurd h2 (Nat.lt_irrefl _)
  · match u, e with
    | [y], _ =>
      have hy := h1 y (by simp)
      rcases k with k | ⟨rfl, k⟩
      · omega
      · exact absurd k (by simp [lexLt])
theorem circ_m6a (v : Value) (w : World) (h : Rows w v m6a) : Calls Tryd.prog 10 #[.agg #[v]] w fun e w' => e = .returned (.tuple #[.int .i64 0, .int .i64 0]) ∧ Below w.heap.size w w' := by
  refine (Circular_ok v m6a w h m6a_valid).mono ?_
  rintro e w1 ⟨x, c, rfl, ⟨h1, h2, h3, rfl⟩ | ⟨h1, rfl, rfl⟩, hb⟩
  · by_cases e : x = 0
    · subst e; exact ⟨rfl, hb⟩
    · have := h3 0 (by omega)
      rw [m6a_cyc] at this
      cases this
  · have := h1 0 (by decide +kernel)
    rw [m6a_cyc] at this
    cases this
theorem extend_m6b (v s : Value) (w : World) (hT : Tab w) (h : Rows w v m6b) (hs : Ints w s [0]) : Calls Tryd.prog 17 #[.agg #[v], s] w fun e w' => ∃ A c, e = .returned (.tuple #[.slice A 1 c, .int .i64 0]) ∧ Ints w' (.slice A 1 c) [0] ∧ Below w.heap.size w w' := by
  refine (Extend_ok v s m6b [0] w hT h hs m6b_valid (by decide +kernel) (by decide)).mono ?_
  rintro e w1 ⟨⟨u, r, h1, h2, rfl, ho⟩ | ⟨h1, -⟩, hb⟩
  · rw [m6b_first h1] at ho
    have hi : Ints w1 r [0] := Ints.of_own ho (by decide)
    obtain ⟨A, c, rfl, _⟩ := id hi
    exact ⟨A, c, rfl, hi, hb⟩
  · exact absurd m6b_big (h1 [0] (fun x hx => by
      obtain rfl : x = 0 := by simpa using hx
      exact ⟨by decide, by decide +kernel⟩))
set_option maxRecDepth 100000 in
set_option maxHeartbeats 4000000 in
theorem awake6_any (w : World) (hT : Tab w) :
    Calls Tryd.prog 13 #[] w fun e w' => e = .returned (.bool true) ∧ Below w.heap.size w w' := by
  go_enter Tryd.func13, Tryd.ntmps13
  go_upto_region 2 with fail
  have hRa := (lit_rows w 1 0 2 1 0 2).alloc (.cells #[.slice (some ⟨w.heap.size + 1 + 1 + 1, 0, none⟩) 3 3] 24)
  have hX1 : Below w.heap.size w (((((w.alloc (.cells #[.int .i64 1, .int .i64 0] 3)).alloc (.cells #[.int .i64 2, .int .i64 1] 3)).alloc (.cells #[.int .i64 0, .int .i64 2] 3)).alloc (.cells #[.slice (some ⟨w.heap.size, 0, none⟩) 2 2, .slice (some ⟨w.heap.size + 1, 0, none⟩) 2 2, .slice (some ⟨w.heap.size + 1 + 1, 0, none⟩) 2 2] 34)).alloc (.cells #[.slice (some ⟨w.heap.size + 1 + 1 + 1, 0, none⟩) 3 3] 24)) := bal (bal (bal (bal (bal (Below.refl _ w) _) _) _) _) _
  have c1 := (Boxed.new ((((w.alloc (.cells #[.int .i64 1, .int .i64 0] 3)).alloc (.cells #[.int .i64 2, .int .i64 1] 3)).alloc (.cells #[.int .i64 0, .int .i64 2] 3)).alloc (.cells #[.slice (some ⟨w.heap.size, 0, none⟩) 2 2, .slice (some ⟨w.heap.size + 1, 0, none⟩) 2 2, .slice (some ⟨w.heap.size + 1 + 1, 0, none⟩) 2 2] 34)) 24 (.slice (some ⟨w.heap.size + 1 + 1 + 1, 0, none⟩) 3 3)).cell
  simp only [World.size_alloc] at c1
  generalize hXX : ((((w.alloc (.cells #[.int .i64 1, .int .i64 0] 3)).alloc (.cells #[.int .i64 2, .int .i64 1] 3)).alloc (.cells #[.int .i64 0, .int .i64 2] 3)).alloc (.cells #[.slice (some ⟨w.heap.size, 0, none⟩) 2 2, .slice (some ⟨w.heap.size + 1, 0, none⟩) 2 2, .slice (some ⟨w.heap.size + 1 + 1, 0, none⟩) 2 2] 34)).alloc (.cells #[.slice (some ⟨w.heap.size + 1 + 1 + 1, 0, none⟩) 3 3] 24) = X at *
  clear hXX
  generalize hva : Value.slice (some ⟨w.heap.size + 1 + 1 + 1, 0, none⟩) 3 3 = va at *
  obtain ⟨ga, rfl⟩ : ∃ g, va = .slice (some ⟨g, 0, none⟩) 3 3 := ⟨_, hva.symm⟩
  clear hva
  have hRa' : Rows X (.slice (some ⟨ga, 0, none⟩) 3 3) m6a := hRa
  clear hRa
  generalize w.heap.size + 1 + 1 + 1 + 1 = B at *
  generalize Value.slice (some ⟨w.heap.size, 0, none⟩) 2 2 = z1 at *
  generalize Value.slice (some ⟨w.heap.size + 1, 0, none⟩) 2 2 = z2 at *
  generalize Value.slice (some ⟨w.heap.size + 1 + 1, 0, none⟩) 2 2 = z3 at *
  go_upto_region 3 with fail
  have hRb := (lit_rows X 0 1 0 2 1 2).alloc (.cells #[.slice (some ⟨X.heap.size + 1 + 1 + 1, 0, none⟩) 3 3] 24)
  have hX2 : Below X.heap.size X (((((X.alloc (.cells #[.int .i64 0, .int .i64 1] 3)).alloc (.cells #[.int .i64 0, .int .i64 2] 3)).alloc (.cells #[.int .i64 1, .int .i64 2] 3)).alloc (.cells #[.slice (some ⟨X.heap.size, 0, none⟩) 2 2, .slice (some ⟨X.heap.size + 1, 0, none⟩) 2 2, .slice (some ⟨X.heap.size + 1 + 1, 0, none⟩) 2 2] 34)).alloc (.cells #[.slice (some ⟨X.heap.size + 1 + 1 + 1, 0, none⟩) 3 3] 24)) := bal (bal (bal (bal (bal (Below.refl _ X) _) _) _) _) _
  have c2 := (Boxed.new ((((X.alloc (.cells #[.int .i64 0, .int .i64 1] 3)).alloc (.cells #[.int .i64 0, .int .i64 2] 3)).alloc (.cells #[.int .i64 1, .int .i64 2] 3)).alloc (.cells #[.slice (some ⟨X.heap.size, 0, none⟩) 2 2, .slice (some ⟨X.heap.size + 1, 0, none⟩) 2 2, .slice (some ⟨X.heap.size + 1 + 1, 0, none⟩) 2 2] 34)) 24 (.slice (some ⟨X.heap.size + 1 + 1 + 1, 0, none⟩) 3 3)).cell
  simp only [World.size_alloc] at c2
  have c1 := (hX2.cell (p := ⟨B, 0, none⟩) (World.block_lt_of_cell? _ _ c1)).trans c1
  have hRa := hRa'.below hX2
  have hB := btr hX1 hX2
  clear hRa' hX2 hX1
  generalize hYY : ((((X.alloc (.cells #[.int .i64 0, .int .i64 1] 3)).alloc (.cells #[.int .i64 0, .int .i64 2] 3)).alloc (.cells #[.int .i64 1, .int .i64 2] 3)).alloc (.cells #[.slice (some ⟨X.heap.size, 0, none⟩) 2 2, .slice (some ⟨X.heap.size + 1, 0, none⟩) 2 2, .slice (some ⟨X.heap.size + 1 + 1, 0, none⟩) 2 2] 34)).alloc (.cells #[.slice (some ⟨X.heap.size + 1 + 1 + 1, 0, none⟩) 3 3] 24) = Y at *
  clear hYY
  generalize hva : Value.slice (some ⟨X.heap.size + 1 + 1 + 1, 0, none⟩) 3 3 = va at *
  obtain ⟨gb, rfl⟩ : ∃ g, va = .slice (some ⟨g, 0, none⟩) 3 3 := ⟨_, hva.symm⟩
  clear hva
  have hRb' : Rows Y (.slice (some ⟨gb, 0, none⟩) 3 3) m6b := hRb
  clear hRb
  generalize X.heap.size + 1 + 1 + 1 + 1 = C at *
  go_wp2_with fail
  refine (Eulerian_ok _ m6a true Y hRa m6a_valid m6a_eul).mono ?_
  rintro e y1 ⟨rfl, h1⟩
  have c1 := (h1.cell (p := ⟨B, 0, none⟩) (World.block_lt_of_cell? _ _ c1)).trans c1
  have c2 := (h1.cell (p := ⟨C, 0, none⟩) (World.block_lt_of_cell? _ _ c2)).trans c2
  have hRa := hRa.below h1
  have hRb := hRb'.below h1
  have hB := btr hB h1
  clear hRb' h1
  go_wp2_with fail
  refine (circ_m6a _ y1 hRa).mono ?_
  rintro e y2 ⟨rfl, h1⟩
  have c1 := (h1.cell (p := ⟨B, 0, none⟩) (World.block_lt_of_cell? _ _ c1)).trans c1
  have c2 := (h1.cell (p := ⟨C, 0, none⟩) (World.block_lt_of_cell? _ _ c2)).trans c2
  have hRa := hRa.below h1
  have hRb := hRb.below h1
  have hB := btr hB h1
  clear h1
  go_wp2_with fail
  refine (Bound_none _ m6a y2 hRa m6a_valid m6a_none).mono ?_
  rintro e y3 ⟨rfl, h1⟩
  have c2 := (h1.cell (p := ⟨C, 0, none⟩) (World.block_lt_of_cell? _ _ c2)).trans c2
  have hRb := hRb.below h1
  have hB := btr hB h1
  clear h1
  go_wp2_with fail
  refine (Bound_ok _ m6b y3 hRb m6b_valid m6b_all).mono ?_
  rw [m6b_bnd]
  rintro e y4 ⟨rfl, h1⟩
  have c2 := (h1.cell (p := ⟨C, 0, none⟩) (World.block_lt_of_cell? _ _ c2)).trans c2
  have hRb := hRb.below h1
  have hB := btr hB h1
  clear h1
  go_wp2_with fail
  have hX4 := bal (Below.refl _ y4) (.cells #[.int .i64 0] 3)
  refine (extend_m6b _ _ _ (hT.on (btr hB hX4)) (hRb.below hX4) (Ints.one' y4 0 3 _ rfl)).mono ?_
  rintro e y5 ⟨A5, k5, rfl, i5, h1⟩
  have hB := btr hB (btr hX4 h1)
  clear h1 hX4 hRb c2
  go_wp2_with fail
  refine (rSame_eq _ _ [0] _ (i5.alloc _) (Ints.one' y5 0 3 _ rfl)).mono ?_
  rintro e y6 ⟨rfl, h1⟩
  go_wp2
  go_ret
  exact ⟨rfl, btr hB (btr (bal (Below.refl _ y5) _) h1)⟩
end Go.Proofs.YtphpablchlpagaaDoor
namespace Go.Proofs.YtphpablchlpagaaDoor
open Go.RowKit Go.Shelf
theorem set_size {m : List (List Int)} (hv : validM m = true) {sl : List Int} (hs : isSetM m sl = true) : szS (ofList sl) = sl.length := by
  have hn : m.length ≤ 64 := by have := (valid_parts hv).2.1; omega
  have h1 := isSetM_mem hs
  have hS := ofList_lt m.length hn sl h1
  have hsort : sl.Pairwise (· < ·) := sorted_of_incr (by simp only [isSetM, Bool.and_eq_true] at hs; exact hs.1)
  have hmem : ∀ x : Nat, x ∈ elems (ofList sl) ↔ x ∈ sl.map Int.toNat := fun x => by
    rw [mem_of_testBit hS hn, ofList_testBit, List.any_eq_true, List.mem_map]
    simp
  have hnd : (sl.map Int.toNat).Nodup := List.pairwise_map.2 (hsort.imp_of_mem fun {a b} ha hb hab => by
    have := h1 a ha
    have := h1 b hb
    omega)
  have a1 := nodup_lenR hnd (fun x hx => (hmem x).2 hx)
  have a2 := nodup_lenR (elems_nodup (ofList sl)) (fun x hx => (hmem x).1 hx)
  rw [List.length_map] at a1 a2
  unfold szS
  omega
theorem FirstBig.len {m : List (List Int)} {S : Nat} {u w : List Int} (h : FirstBig m S u) (hw : WDm m w) (hb : szS S < szS (preWord m S w)) : u.length ≤ w.length := by
  rcases h.2.2 w hw hb with e | e | ⟨e, _⟩
  · rw [e]; exact Nat.le_refl _
  · omega
  · omega
end Go.Proofs.YtphpablchlpagaaDoor
namespace Go.Proofs.YtphpablchlpagaaDoor
open Go.RowKit Go.Shelf
set_option maxRecDepth 100000 in
set_option maxHeartbeats 2000000 in
theorem rPreimage_own (v s u : Value) (m : List (List Int)) (sl l : List Int) (w : World) (h : Rows w v m) (hs : Ints w s sl) (hu : Ints w u l) (hv : validM m = true) (h1 : isSetM m sl = true) (hw : isWordM m l = true) :
    Calls Tryd.prog 44 #[.agg #[v], s, u] w fun e w' => ∃ r, e = .returned r ∧ w'.ownsRow w.heap.size 3 1 r (preimageM m sl l).length ((preimageM m sl l).map fun x => .int .i64 x) ∧ Below w.heap.size w w' := by
  obtain ⟨j0, hj, hy0, hy1, hy2⟩ := info_parts infoInt
  have hn : m.length ≤ 60 := (valid_parts hv).2.1
  have hb0 := bal (Below.refl _ w) (.cells #[v] 24)
  obtain ⟨A, cap, rfl, _⟩ := id h
  obtain ⟨Au, capu, rfl, _⟩ := id hu
  obtain ⟨As, caps, rfl, _⟩ := id hs
  have hbx : (w.alloc (.cells #[.slice A m.length cap] 24)).cell? ⟨w.heap.size, 0, none⟩ = some (.slice A m.length cap) := by simp
  have Hpick := hid (preimage_pick hv h1 hw)
  go_enter Tryd.func44, Tryd.ntmps44
  go_wp2_with fail
  refine (rEnds_any _ _ m l _ (h.alloc _) (hu.alloc _) hv hw).mono ?_
  rintro e X ⟨r, rfl, hends, hbX⟩
  have hX := btr hb0 hbX
  have hbX' := (hbX.cell (p := ⟨w.heap.size, 0, none⟩) (by simp)).trans hbx
  have hlt : w.heap.size < X.heap.size := World.block_lt_of_cell? _ _ hbX'
  have hsX := hs.below hX
  obtain ⟨Ae, ce, rfl, _, hce⟩ := id hends
  have Hce := hid hce
  clear hce hb0 hbX hbx
  rw [endsTo_length] at *
  go_wp2
  go_loopw [8, 9] (fun r i wr => ∃ k : Nat, k ≤ m.length ∧ i = .int .i64 k ∧ Below X.heap.size X wr ∧ wr.ownsRow X.heap.size 3 1 r (pick (fun t => hasB sl ((runM m t l : Nat) : Int)) k).length ((pick (fun t => hasB sl ((runM m t l : Nat) : Int)) k).map fun x => .int .i64 x)) (fun _ i _ => m.length - (intOf i).toNat)
  case atStart => exact ⟨0, Nat.zero_le _, rfl, Below.refl _ _, ⟨rfl, .inl ⟨rfl, rfl⟩⟩⟩
  case round =>
    obtain ⟨k, hk, rfl, hB, ho⟩ := hrel
    have hbr := (hB.cell (p := ⟨w.heap.size, 0, none⟩) hlt).trans hbX'
    have hsz := hB.size
    by_cases hlt' : k < m.length
    · obtain ⟨be, oe, hAe, hcell⟩ := Hce.out k hlt'
      subst hAe
      rw [endsTo_get _ _ _ _ hlt'] at hcell
      have hcr := (hB.cell (p := ⟨be, oe + k, none⟩) (World.block_lt_of_cell? _ _ hcell)).trans hcell
      have hkm : (k : Int) < m.length := by omega
      have Hs := hid (pick_succ (fun t => hasB sl ((runM m t l : Nat) : Int)) k)
      have hpl := pick_length (fun t => hasB sl ((runM m t l : Nat) : Int)) k
      have Hlen : Hid ((pick (fun t => hasB sl ((runM m t l : Nat) : Int)) (k + 1)).length = (pick (fun t => hasB sl ((runM m t l : Nat) : Int)) k).length + (if hasB sl ((runM m k l : Nat) : Int) then 1 else 0)) := by
        have := congrArg List.length Hs.out
        unfold Hid
        simp only [List.length_map, List.length_append] at this
        rw [this]
        split <;> simp
      generalize pick (fun t => hasB sl ((runM m t l : Nat) : Int)) k = pk at *
      generalize runM m k l = y at *
      clear hcell
      by_cases hb : hasB sl (y : Int) = true
      · go_wp2_with fail
        refine (hasB_bool _ sl y true _ (hsX.below hB) hb).mono ?_
        rintro e w2 ⟨rfl, rfl⟩
        go_wp2_with (at_builtin; refine wpList_append_own_at _ rfl _ _ 34 rfl X.heap.size 3 j0 (.int .i64 0) 1 8 Tryd.underlying34 hj hy0 hy1 hy2 rfl (by decide) _ _ _ rfl (ho.alloc _) ⟨wr.heap.size, 0, none⟩ 1 1 [.int .i64 (k : Int)] rfl rfl (cell_one_new _ _ _) (by simp [Value.oneCell']) (by unfold maxLen; omega) (by omega) (by simp; omega) ?_; intro v' w5 hown' hgrow' _ hat)
        go_roundw
        case rel =>
          refine ⟨k + 1, by omega, by go_num, appended_below hB ho hsz hgrow', ?_⟩
          rw [Hs.out, Hlen.out, if_pos hb, if_pos hb]
          exact hown'
        case measure => simp [intOf]; omega
      · have hb' : hasB sl (y : Int) = false := by simpa using hb
        go_wp2_with fail
        refine (hasB_bool _ sl y false _ (hsX.below hB) hb').mono ?_
        rintro e w2 ⟨rfl, rfl⟩
        go_wp2
        go_roundw
        case rel =>
          refine ⟨k + 1, by omega, by go_num, hB, ?_⟩
          rw [Hs.out, Hlen.out, if_neg hb, if_neg hb, List.append_nil, Nat.add_zero]
          exact ho
        case measure => simp [intOf]; omega
    · obtain rfl : k = m.length := by omega
      have hpl := pick_length (fun t => hasB sl ((runM m t l : Nat) : Int)) m.length
      rw [Hpick.out] at ho hpl
      go_wp2
      go_ret
      exact ⟨_, rfl, owns_base ho hX.size, btr hX hB⟩
/-- A set, in order, with its word. -/
def EltI (W : World) (P : Nat → Prop) (m : List (List Int)) (vs vw : Value) (e : Tr) : Prop := (∃ l, IntsP W P vs l ∧ isSetM m l = true ∧ ofList l = e.1) ∧ IntsP W P vw e.2 ∧ (e.2 = [] → vw = .slice none 0 0)
theorem EltI.kept {W W' : World} {P P' : Nat → Prop} {m : List (List Int)} {vs vw : Value} {e : Tr} (h : EltI W P m vs vw e) (hk : ∀ b, P b → b < W.heap.size → W'.heap[b]? = W.heap[b]?) (hP : ∀ b, P b → b < W.heap.size → P' b) : EltI W' P' m vs vw e := by
  obtain ⟨⟨l, h1, h2, h3⟩, h4, h5⟩ := h
  exact ⟨⟨l, h1.kept hk hP, h2, h3⟩, h4.kept hk hP, h5⟩
theorem EltI.one {W : World} {P : Nat → Prop} {m : List (List Int)} {vs vw : Value} {e : Tr} (h : EltI W P m vs vw e) : vs.oneCell' = true ∧ vw.oneCell' = true := by
  obtain ⟨⟨l, ⟨A, c, rfl, _⟩, _⟩, ⟨A', c', rfl, _⟩, _⟩ := h
  exact ⟨rfl, rfl⟩
/-- A level that is only read. -/
def LvlI (W : World) (P : Nat → Prop) (m : List (List Int)) (v : Value) (L : List Tr) : Prop :=
  ∃ A cap, v = .slice A L.length cap ∧ ∀ i, i < L.length → ∃ b off vs vw, A = some ⟨b, off, none⟩ ∧ P b ∧ W.cell? ⟨b, off + i * 2, none⟩ = some vs ∧ W.cell? ⟨b, off + i * 2 + 1, none⟩ = some vw ∧ EltI W P m vs vw (L.getD i (0, []))
theorem LvlI.kept {W W' : World} {P P' : Nat → Prop} {m : List (List Int)} {v : Value} {L : List Tr} (h : LvlI W P m v L) (hk : ∀ b, P b → b < W.heap.size → W'.heap[b]? = W.heap[b]?) (hP : ∀ b, P b → b < W.heap.size → P' b) : LvlI W' P' m v L := by
  obtain ⟨A, cap, rfl, hc⟩ := h
  refine ⟨A, cap, rfl, fun i hi => ?_⟩
  obtain ⟨b, off, vs, vw, h1, h2, h3, h4, h5⟩ := hc i hi
  have hb : b < W.heap.size := World.block_lt_of_cell? _ _ h3
  exact ⟨b, off, vs, vw, h1, hP b h2 hb, (World.cell?_of_block (hk b h2 hb)).trans h3, (World.cell?_of_block (hk b h2 hb)).trans h4, h5.kept hk hP⟩
/-- A level that is being made: its row is of the call's own from base on and not in block sk; its elements lie from lo on. -/
def NextI (W : World) (base lo sk : Nat) (m : List (List Int)) (v : Value) (L : List Tr) : Prop :=
  ∃ xs : List Value, W.ownsRow base 65 2 v L.length xs ∧ (∀ g, v.ownBlock = some g → g ≠ sk) ∧ ∀ i, i < L.length → ∃ vs vw, xs[i * 2]? = some vs ∧ xs[i * 2 + 1]? = some vw ∧ EltI W (fun b => lo ≤ b ∧ some b ≠ v.ownBlock) m vs vw (L.getD i (0, []))
theorem NextI.slice {W : World} {base lo sk : Nat} {m : List (List Int)} {v : Value} {L : List Tr} (h : NextI W base lo sk m v L) : ∃ A c, v = .slice A L.length c ∧ ∀ g, v.ownBlock = some g → base ≤ g ∧ g < W.heap.size := by
  obtain ⟨xs, ho, _⟩ := h
  rcases ho.2 with ⟨hu, h0⟩ | ⟨g, cap, cur, hu, hg, hh, _⟩
  · exact ⟨none, 0, by rw [hu, h0], fun g' h => by rw [hu] at h; cases h⟩
  · exact ⟨_, cap, hu, fun g' h => by rw [hu] at h; cases h; exact ⟨hg, lt_of_block hh⟩⟩
theorem NextI.kept {W W' : World} {base lo sk : Nat} {m : List (List Int)} {v : Value} {L : List Tr} (h : NextI W base lo sk m v L) (hb : base ≤ lo) (hsk : sk < lo) (hk : ∀ b, base ≤ b → b ≠ sk → b < W.heap.size → W'.heap[b]? = W.heap[b]?) : NextI W' base lo sk m v L := by
  obtain ⟨A, c, hv, hblk⟩ := h.slice
  obtain ⟨xs, ho, hs, hx⟩ := h
  refine ⟨xs, ownsRow_same ho fun g hg => hk g (hblk g hg).1 (hs g hg) (hblk g hg).2, hs, fun i hi => ?_⟩
  obtain ⟨vs, vw, h1, h2, h3⟩ := hx i hi
  exact ⟨vs, vw, h1, h2, h3.kept (fun b hb' hs' => hk b (by omega) (by omega) hs') (fun _ h _ => h)⟩
theorem NextI.lvl {W : World} {base lo sk : Nat} {m : List (List Int)} {v : Value} {L : List Tr} (h : NextI W base lo sk m v L) (hlo : base ≤ lo) : LvlI W (fun b => base ≤ b) m v L := by
  obtain ⟨A, c, hv, hb⟩ := h.slice
  obtain ⟨xs, ho, hs, hx⟩ := h
  refine ⟨A, c, hv, fun i hi => ?_⟩
  obtain ⟨vs, vw, h1, h2, h3⟩ := hx i hi
  rcases ho.2 with ⟨hu, h0⟩ | ⟨g, cap, cur, hu, hg, hh, _⟩
  · omega
  · rw [hu] at hv
    simp only [Value.slice.injEq] at hv
    obtain ⟨rfl, -, rfl⟩ := hv
    have k := World.ownsRow.cells ho (g := g) (by rw [hu]; rfl)
    have a1 := k _ _ h1
    have a2 := k _ _ h2
    simp only [Addr.add] at a1 a2
    refine ⟨g, 0, vs, vw, rfl, hg, ?_, ?_, h3.kept (fun _ _ _ => rfl) (fun b hb _ => by have := hb.1; show base ≤ b; omega)⟩
    · by_cases e : i * 2 = 0
      · rw [e] at a1 ⊢; simpa using a1
      · simpa [e] using a1
    · simpa using a2
/-- One more, by an append. -/
theorem NextI.pushed {W w5 : World} {base lo sk : Nat} {m : List (List Int)} {v v' vs vw : Value} {L : List Tr} {xs : List Value} {e : Tr} (hx : ∀ i, i < L.length → ∃ vs vw, xs[i * 2]? = some vs ∧ xs[i * 2 + 1]? = some vw ∧ EltI W (fun b => lo ≤ b ∧ some b ≠ v.ownBlock) m vs vw (L.getD i (0, []))) (hxl : xs.length = L.length * 2)
    (he : EltI W (fun b => lo ≤ b ∧ some b ≠ v.ownBlock) m vs vw e) (ho : w5.ownsRow base 65 2 v' (L.length + 1) (xs ++ [vs, vw])) (hg : W.grownBy w5 v.ownBlock) (hat : v'.ownBlock = v.ownBlock ∨ v'.ownBlock = some W.heap.size) (hs : ∀ g, v.ownBlock = some g → g ≠ sk) (hsk : sk < W.heap.size) : NextI w5 base lo sk m v' (L ++ [e]) := by
  refine ⟨xs ++ [vs, vw], by simpa using ho, fun g hg' => ?_, fun i hi => ?_⟩
  · rcases hat with h1 | h1
    · exact hs g (by rw [← h1]; exact hg')
    · rw [h1] at hg'
      have : W.heap.size = g := by simpa using hg'
      omega
  have key : ∀ {vs vw : Value} {e : Tr}, EltI W (fun b => lo ≤ b ∧ some b ≠ v.ownBlock) m vs vw e → EltI w5 (fun b => lo ≤ b ∧ some b ≠ v'.ownBlock) m vs vw e := fun h =>
    h.kept (fun b hb hs => hg.block b hs (fun e => hb.2 e)) (fun b hb hs => ⟨hb.1, fun e => by
      rcases hat with h1 | h1
      · exact hb.2 (e.trans h1)
      · rw [h1] at e
        have : b = W.heap.size := by simpa using e
        omega⟩)
  simp only [List.length_append, List.length_cons, List.length_nil] at hi
  by_cases hil : i < L.length
  · obtain ⟨vs', vw', h1, h2, h3⟩ := hx i hil
    refine ⟨vs', vw', by rw [List.getElem?_append_left (by omega)]; exact h1, by rw [List.getElem?_append_left (by omega)]; exact h2, ?_⟩
    have e2 : (L ++ [e]).getD i (0, []) = L.getD i (0, []) := by simp [List.getD_eq_getElem?_getD, List.getElem?_append_left hil]
    rw [e2]; exact key h3
  · obtain rfl : i = L.length := by omega
    refine ⟨vs, vw, by rw [← hxl]; simp, by rw [← hxl, List.getElem?_append_right (by omega)]; simp, ?_⟩
    have e2 : (L ++ [e]).getD L.length (0, []) = e := by simp [List.getD_eq_getElem?_getD]
    rw [e2]; exact key he
theorem infoFound : (Tryd.prog.info? 65).map (fun i => (i.zero, i.size, i.bytes)) = some (some (.agg #[.slice none 0 0, .slice none 0 0]), 2, 48) := by kernel_rfl
/-- 'append(next, f)'. -/
theorem wpList_append_found {W : World} {ops : Array Oper} {rest : List Oper} {o : Oper} {a : Act} {Q : Exit → Act → World → Prop} (hgd : o.guard = none) (s x : Operand)
    (ho : o.op = .call { callee := .builtin .append, args := #[s, x], argTypes := #[66, 66] }) (base lo sk : Nat) (m : List (List Int)) (v vs vw : Value) (L : List Tr) (e : Tr) (t : TypeId) (w0 : World) (hW : W = w0.alloc (.cells #[vs, vw] t)) (k : Nat) (hk : k = w0.heap.size)
    (hs : a.eval s = v) (hM : NextI w0 base lo sk m v L) (hx : a.eval x = .slice (some ⟨k, 0, none⟩) 1 1) (hu : EltI w0 (fun b => lo ≤ b ∧ some b ≠ v.ownBlock) m vs vw e) (hb : base ≤ w0.heap.size) (hsk : sk < w0.heap.size) (hlen : L.length ≤ 100000)
    (h : ∀ A c w', NextI w' base lo sk m (.slice A (L.length + 1) c) (L ++ [e]) → Below base w0 w' → w0.heap.size ≤ w'.heap.size → (∀ b, b < w0.heap.size → some b ≠ v.ownBlock → w'.heap[b]? = w0.heap[b]?) → (∀ b, b < w0.heap.size → some b ≠ v.ownBlock → some b ≠ (Value.slice A (L.length + 1) c).ownBlock) → wpList Tryd.prog ops Q rest (a.put o.dst (.slice A (L.length + 1) c)) w') :
    wpList Tryd.prog ops Q (o :: rest) a W := by
  subst hk
  subst hW
  obtain ⟨i0, hi, hz0, hz1, hz2⟩ := info_parts infoFound
  obtain ⟨A0, c0, rfl, hblk⟩ := hM.slice
  obtain ⟨xs, hxo, hxs, hxx⟩ := id hM
  obtain ⟨o1, o2⟩ := hu.one
  have hone : ∀ u' ∈ [vs, vw], u'.oneCell' = true := by
    intro u' hu'
    simp only [List.mem_cons, List.mem_nil_iff, or_false] at hu'
    rcases hu' with rfl | rfl
    · exact o1
    · exact o2
  refine wpList_append_own_at _ hgd s x 66 ho base 65 i0 (.agg #[.slice none 0 0, .slice none 0 0]) 2 48 Tryd.underlying66 hi hz0 hz1 hz2 rfl (by decide) _ _ _ hs (hxo.alloc _) ⟨w0.heap.size, 0, none⟩ 1 1 [vs, vw] hx rfl (pair_newV _ _ _ _ _ rfl) hone (by unfold maxLen; omega) (by omega) (by simp; omega) ?_
  intro v' w5 hown' hgrow' _ hat
  obtain ⟨g', cap', rfl⟩ := ownsRow_succ hown'
  have hB : Below base w0 w5 := ((Below.refl _ _).alloc hb _).grown hgrow' (by simp; omega) (fun q hq => (hblk q hq).1)
  refine h _ _ _ ?_ hB hB.size (fun b hb hne => (hgrow'.block b (by simp; omega) (fun e => hne e)).trans (Below.heap_alloc _ _ _ hb)) (fun b hb hne e => by
    rcases hat with h1 | h1
    · exact hne (e.trans h1)
    · rw [h1] at e
      simp at e
      omega)
  exact NextI.pushed (W := w0.alloc (.cells #[vs, vw] t)) (base := base) (v := .slice A0 L.length c0) (L := L) (e := e) (xs := xs) (vs := vs) (vw := vw)
    (fun i hi => by obtain ⟨a, b, h1, h2, h3⟩ := hxx i hi; exact ⟨a, b, h1, h2, h3.kept (fun q _ hq => Below.heap_alloc _ _ _ hq) (fun _ h _ => h)⟩) hxo.1
    (hu.kept (fun q _ hq => Below.heap_alloc _ _ _ hq) (fun _ h _ => h)) hown' hgrow' hat hxs (by simp; omega)
/-- 'append([]int{x}, word...)' within a region that draws: all blocks stay as they are. -/
theorem step_append_one {w : World} {ops : Array Oper} {o : Oper} {a : Act} {K : Act → World → Prop} {Q : Exit → Act → World → Prop} {E : Prop} (hgd : o.guard = none) (s x : Operand)
    (ho : o.op = .call { callee := .builtin .append, args := #[s, x], argTypes := #[34, 34] }) (b : Nat) (y : Int) (ao : Option Addr) (c : Nat) (l : List Int)
    (hs : a.eval s = .slice (some ⟨b, 0, none⟩) 1 1) (hb : w.heap[b]? = some (.cells #[.int .i64 y] 3 (0, 0))) (hx : a.eval x = .slice ao l.length c) (h0 : l = [] → ao = none ∧ c = 0) (hI : Ints w (.slice ao l.length c) l) (hlen : l.length ≤ 10000)
    (h : ∀ g cap w', IntsP w' (fun q => q = b ∨ w.heap.size ≤ q) (.slice (some ⟨g, 0, none⟩) (l.length + 1) cap) (y :: l) → Below w.heap.size w w' → K (a.put o.dst (.slice (some ⟨g, 0, none⟩) (l.length + 1) cap)) w') :
    if Region.wanted o (yielded ops a.tmps) = true then Oper.wp Tryd.prog o a w K Q else E := by
  have hw : Region.wanted o (yielded ops a.tmps) = true := by simp [Region.wanted, hgd]
  rw [if_pos hw]
  obtain ⟨j0, hj, hy0, hy1, hy2⟩ := info_parts infoInt
  have hlt : b < w.heap.size := by
    rcases Nat.lt_or_ge b w.heap.size with h1 | h1
    · exact h1
    · rw [Array.getElem?_eq_none h1] at hb; cases hb
  have hown : w.ownsRow b 3 1 (.slice (some ⟨b, 0, none⟩) 1 1) 1 [.int .i64 y] := ⟨rfl, .inr ⟨b, 1, #[.int .i64 y], rfl, Nat.le_refl _, hb, Nat.le_refl _, by unfold maxLen; omega, rfl, rfl⟩⟩
  by_cases hl : l = []
  · obtain ⟨rfl, rfl⟩ := h0 hl
    subst hl
    have hrun := run_append_owned_none (P := Tryd.prog) (w := w) b 34 o.type 3 j0 1 Tryd.underlying34 hj _ 1 _ hown
    unfold Oper.wp execOp
    simp only [ho, resolve, invoke, builtin, Sem.run_bind, Sem.run_pure, Result.andThen_ok, List.map_toArray, List.map_cons, List.map_nil, hs, hx]
    simp only [List.length_nil] at hrun h ⊢
    rw [hrun]
    refine h b 1 w ⟨_, 1, rfl, (fun e => by cases e), by unfold big; simp, fun i hi => ?_⟩ (Below.refl _ _)
    obtain rfl : i = 0 := by simpa using hi
    exact ⟨b, 0, rfl, .inl rfl, by simp [World.cell?, hb]⟩
  · have hpos : 0 < l.length := List.length_pos_iff.2 hl
    cases ao with
    | none =>
      obtain ⟨A, cap, hv, _, hcc⟩ := hI
      obtain ⟨b', off, hA, _⟩ := hcc 0 hpos
      simp only [Value.slice.injEq] at hv
      rw [← hv.1] at hA
      cases hA
    | some ad =>
      obtain ⟨v', w', hrun, r1, r2⟩ := run_append_arg_grows (P := Tryd.prog) w 34 o.type 3 j0 (.int .i64 0) 1 8 Tryd.underlying34 hj hy0 hy1 hy2 rfl (by decide) ⟨b, 0, none⟩ 1 1 [.int .i64 y] rfl (hown.cells (g := b) rfl) ad l.length c (l.map fun x => .int .i64 x) (by simp) (ints_at hI) (by omega) (by unfold maxLen; omega) (by omega)
      obtain ⟨g, cap, rfl, hgb, hlt2⟩ := r1.form (by omega)
      unfold Oper.wp execOp
      simp only [ho, resolve, invoke, builtin, Sem.run_bind, Sem.run_pure, Result.andThen_ok, List.map_toArray, List.map_cons, List.map_nil, hs, hx, hrun]
      rw [Nat.add_comm 1 l.length] at r1 ⊢
      refine h g cap w' (IntsP.own (n₀ := w.heap.size) (l := y :: l) r1 (by simp) (by unfold big; simp; omega) (fun q hq => .inr ?_)) ((Below.refl _ _).grown r2 (Nat.le_refl _) (fun q hq => by cases hq))
      have : g = q := by simpa [Value.ownBlock] using hq
      omega
theorem set_take_lt {m : List (List Int)} {l : List Int} (hs : isSetM m l = true) (hm : m.length ≤ 60) {k : Nat} (hk : k < l.length) : ofList (l.take k) < 2 ^ (l.getD k 0).toNat := by
  have hmem := isSetM_mem hs
  have hsort : l.Pairwise (· < ·) := sorted_of_incr (by unfold isSetM at hs; rw [Bool.and_eq_true] at hs; exact hs.1)
  have hg : l.getD k 0 = l[k] := by rw [List.getD_eq_getElem?_getD, List.getElem?_eq_getElem hk]; rfl
  have hkm := hmem l[k] (List.getElem_mem hk)
  rw [hg]
  refine ofList_lt _ (by omega) _ fun x hx => ?_
  obtain ⟨j, hj, rfl⟩ := List.mem_iff_getElem.1 hx
  have hjk : j < k := by rw [List.length_take] at hj; omega
  rw [List.getElem_take]
  have := (List.pairwise_iff_getElem.1 hsort) j k (by omega) hk hjk
  have := hmem l[j] (List.getElem_mem (by omega))
  omega
set_option maxRecDepth 100000 in
set_option maxHeartbeats 1000000 in
theorem number_any (v : Value) (m : List (List Int)) (l : List Int) (w : World) (h : Ints w v l) (hs : isSetM m l = true) (hm : m.length ≤ 12) :
    Calls Tryd.prog 43 #[v] w fun e w' => e = .returned (.int .i64 (ofList l : Nat)) ∧ w = w' := by
  obtain ⟨A, cap, rfl, hl, hc⟩ := h
  have hmem := isSetM_mem hs
  have hlen := isSetM_len hs
  have Hc := hid hc
  have Hmem := hid hmem
  have Hs := hid hs
  clear hc hmem hs
  go_enter Tryd.func43, Tryd.ntmps43
  go_wp2_with fail
  go_loop [3, 4] (fun nv iv => ∃ k c : Nat, k ≤ l.length ∧ iv = .int .i64 k ∧ nv = .int .i64 c ∧ ofList (l.take k) = c) (fun _ iv => l.length - (intOf iv).toNat)
  case atStart => exact ⟨0, 0, Nat.zero_le _, rfl, rfl, rfl⟩
  case round =>
    obtain ⟨k, c, hk, rfl, rfl, hcc⟩ := hrel
    by_cases hlt : k < l.length
    · have hkl : (k : Int) < l.length := by omega
      obtain ⟨b, off, hA, hcell⟩ := Hc.out k hlt
      subst hA
      have hx := Hmem.out (l.getD k 0) (by rw [List.getD_eq_getElem?_getD, List.getElem?_eq_getElem hlt]; exact List.getElem_mem hlt)
      have hsn := ofList_snoc l k hlt
      have hbit := set_take_lt Hs.out (by omega) hlt
      rw [hcc] at hsn hbit
      obtain ⟨y, hy⟩ := Int.eq_ofNat_of_zero_le hx.1
      rw [hy] at hx hsn hbit hcell
      rw [Int.toNat_natCast] at hsn hbit
      have hor : c ||| 2 ^ y = c + 2 ^ y := by
        have := Nat.two_pow_add_eq_or_of_lt hbit 1
        rw [Nat.mul_one] at this
        rw [Nat.or_comm, ← this, Nat.add_comm]
      rw [hor] at hsn
      have hp : (2 : Nat) ^ y ≤ 2 ^ 12 := Nat.pow_le_pow_right (by decide) (by omega)
      have hpi : ((2 : Int) ^ y) = ((2 ^ y : Nat) : Int) := by push_cast; rfl
      obtain ⟨p, hpp⟩ : ∃ p, 2 ^ y = p := ⟨_, rfl⟩
      rw [hpp] at hpi hp hbit hsn
      have hw1 : IntKind.i64.wrap (1 * 2 ^ y) = p := by rw [Int.one_mul, hpi, IntWalk.i64_in _ (by omega)]
      have hw2 : IntKind.i64.wrap (2 ^ y) = p := by rw [hpi, IntWalk.i64_in _ (by omega)]
      have Hsn := hid hsn
      clear hcc hsn hor hpi hpp
      go_wp2_with fail
      go_round
      case rel => exact ⟨k + 1, c + p, by omega, by go_num, by go_num, Hsn.out⟩
      case measure => simp [intOf]; omega
    · obtain rfl : k = l.length := by omega
      have hkl : ¬ (l.length : Int) < l.length := by omega
      rw [List.take_length] at hcc
      subst hcc
      go_wp2_with fail
      go_ret
      exact ⟨rfl, rfl⟩
end Go.Proofs.YtphpablchlpagaaDoor
