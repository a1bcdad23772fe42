/-
  Texts that the proof of the law stands on: W, V, O2, G4, Y18, Y19.
-/
import Derived.Test.YtfhcbgdonombaaaDoorSaB
import Derived.WalkKit
import Derived.ProofKit
import Derived.OpenShut
import Derived.Deep.DeepHandedRow
import Derived.Deep.DeepWitnessRowRef
import Derived.Lib.LaidTab
import Derived.Lib.LaidIn
import Derived.Lib.ItoaNum
import Derived.WideKeyArgs
import Derived.Test.YtfhcbgdonombaaaDoorRows
import Derived.Deep.CutRange
namespace Go.Proofs.YtfhcbgdonombaaaDoor
open Go.ChangeShapes Go.WideShapes Go.ChangeAt Go.RowKit
theorem own : ownKnob Tryd.prog.godebug = none := by kernel_rfl
theorem gTab : Tryd.prog.globalNamed "math/bits.deBruijn64tab" = some 0 := by kernel_rfl
theorem gTabType : (Tryd.prog.globals[0]?).map (·.type) = some 99 := by kernel_rfl
theorem cellsTab : Tryd.prog.cellsOf 99 = 64 := by kernel_rfl
theorem cellsU8 : Tryd.prog.cellsOf 5 = 1 := by kernel_rfl
section
variable {H : Type} {enc : TypeId × Value → H}
/-- All arguments read as they did. -/
theorem TrodAll_stays {P : Program} (hl : laidOutB P = true) {W W' : World} {sp : Nat → Bool} : ∀ {ts : List TypeId} {vs : List Value} {ds : List (DataW H)} {ps : List MemPlace},
    (∀ t ∈ ts, P.readableRec t = true ∧ t < P.types.size) → DataW.TrodAll enc P W 0 (fun _ => true) true ts vs ds ps → (∀ x ∈ ps, W.sameAt W' x) → (∀ x ∈ ps, sp x.block = true) → DataW.TrodAll enc P W' 0 sp true ts vs ds ps
  | [], vs, ds, ps, _, h, _, _ => by cases vs <;> cases ds <;> simp_all [DataW.TrodAll]
  | t :: ts, vs, ds, ps, ht, h, hs, hsp => by
    obtain ⟨v, vs', d, ds', p, q, rfl, rfl, rfl, h0, r0⟩ := trodAll_cons h
    exact trodAll_cons_mk (WideElems.Trod_stays hl (ht t (by simp)).1 (ht t (by simp)).2 h0 (fun x hx => hs x (List.mem_append_left _ hx)) (fun x hx => hsp x (List.mem_append_left _ hx)))
      (TrodAll_stays hl (fun u hu => ht u (by simp [hu])) r0 (fun x hx => hs x (List.mem_append_right _ hx)) (fun x hx => hsp x (List.mem_append_right _ hx)))
set_option maxRecDepth 100000 in
/-- An automaton that came in. -/
theorem auto_of {W : World} {base : Nat} {v : Value} {d : DataW H} {p : List MemPlace} (hv : Value.okWide Tryd.prog W .any base 24 v) (h : DataW.Trod enc Tryd.prog W 0 (fun _ => true) true 24 v d p)
    (hw : ∀ n ∈ d.weights Tryd.prog 24, n ≤ reachBytes) : ∃ c m, v = .agg #[c] ∧ Rows W c m := by
  obtain ⟨cs, rfl, hs⟩ := okWide_struct Tryd.underlying24 hv
  rw [cells_auto] at hs
  obtain ⟨c, rfl⟩ : ∃ c, cs = #[c] := by
    match cs, hs with
    | ⟨[c]⟩, _ => exact ⟨c, rfl⟩
  obtain ⟨fuel, hf⟩ := h
  obtain ⟨y0, n, hx, _, h0⟩ := trod_struct1 Tryd.underlying24 hf
  have hd : d = .agg [y0.1] := (Prod.mk.inj hx).1
  subst hd
  obtain ⟨m, hm⟩ := rows_of_trod (fuel := n) (c := c) (x := y0) h0 (fun k hk => hw k (by
    rw [DataW.weights, Tryd.underlying24]
    simp only [List.map_cons, List.map_nil, DataW.weightsEach, List.append_nil]
    exact hk))
  exact ⟨c, m, rfl, hm⟩
set_option maxRecDepth 100000 in
/-- A list of numbers that came in. -/
theorem list_of {W : World} {base : Nat} {v : Value} {d : DataW H} {p : List MemPlace} (hv : Value.okWide Tryd.prog W .any base 25 v) (h : DataW.Trod enc Tryd.prog W 0 (fun _ => true) true 25 v d p)
    (hw : ∀ n ∈ d.weights Tryd.prog 25, n ≤ reachBytes) : ∃ l, Ints W v l := by
  obtain ⟨a, len, cap, rfl⟩ := okWide_slice Tryd.underlying25 hv
  obtain ⟨fuel, hf⟩ := h
  exact ints_of_trod hf hw
set_option maxRecDepth 100000 in
/-- A nil list has no room. -/
theorem list_nil_of {W : World} {base : Nat} {v : Value} {d : DataW H} {p : List MemPlace} (hv : Value.okWide Tryd.prog W .any base 25 v) (h : DataW.Trod enc Tryd.prog W 0 (fun _ => true) true 25 v d p) : ∀ A n c, v = .slice A n c → A = none → c = 0 := by
  obtain ⟨a, len, cap, rfl⟩ := okWide_slice Tryd.underlying25 hv
  obtain ⟨fuel, hf⟩ := h
  rintro A n c hA rfl
  simp only [Value.slice.injEq] at hA
  obtain ⟨rfl, rfl, rfl⟩ := hA
  have hf' : DataW.trod enc Tryd.prog W 0 (fun _ => true) true fuel 25 [.slice none len cap] = some (d, p) := hf
  rcases Go.ChangeShapes.open_ints Tryd.underlying25 Tryd.underlying3 cells_int hf' with ⟨hc, _⟩ | ⟨a, _, _, _, hc, _⟩
  · simp only [List.cons.injEq, Value.slice.injEq] at hc
    exact hc.1.2.2
  · simp at hc
theorem weight_of {P : Program} {ts : List TypeId} {ds : List (DataW H)} (h : (DataW.weightsEach P ts ds).all (· ≤ reachBytes) = true) {j : Nat} {t : TypeId} {d : DataW H} (ht : ts[j]? = some t) (hd : ds[j]? = some d) : ∀ n ∈ d.weights P t, n ≤ reachBytes := by
  intro n hn
  have := List.all_eq_true.1 h _ (DataW.weights_mem_each ht hd n hn)
  simpa using this
end
end Go.Proofs.YtfhcbgdonombaaaDoor
namespace Go.Proofs.YtfhcbgdonombaaaDoor
open Go.ChangeShapes Go.WideShapes Go.ChangeAt Go.RowKit
noncomputable def laidWorld2 (os : Os) : World :=
  let w0 := World.holding Tryd.prog os ⟨#[], #[], []⟩
  let put (h : Array Obj) (g : Nat) (cs : Array Value) : Array Obj := h.modify g fun
    | .cells _ t frozen => .cells cs t frozen
    | o => o
  { w0 with heap := put w0.heap 0 (Lib.deBruijn64tab.map fun z : Nat => Value.int .u8 z).toArray }
set_option maxRecDepth 1000000 in
theorem laid_met2 (os : Os) (args : Array Value) : laidMet Tryd.prog Rows.shortFindsRow.laid ((laidWorld2 os).forCall (fun _ _ => 0) ⟨#[], args, []⟩).memory :=
  (LaidIn.of_run (l := Rows.shortFindsRow.laid) [0] 8 (by kernel_rfl) (by kernel_rfl) (by kernel_rfl) (by kernel_rfl)).met
/-- The table of the least bit, out of the list. -/
theorem tab_of2 {W : World} (h : laidMetH Tryd.prog Rows.shortFindsRow.laid W) : Tab W := by
  have h1 : laidMet Tryd.prog Rows.shortFindsRow.laid W := h
  have h2 : laidMet Tryd.prog (("math/bits.deBruijn64tab", Lib.tabData .u8 (Lib.deBruijn64tab.map fun x : Nat => (x : Int))) :: Rows.shortFindsRow.laid.drop 1) W := h1
  have h3 := Lib.tabIs_of_head gTab gTabType Tryd.underlying99 Tryd.underlying5 cellsU8 cellsTab h2
  intro j hj
  have h4 := h3.cell gTab j (by rw [List.length_map]; exact hj)
  rw [h4]
  have e : j < Lib.deBruijn64tab.length := hj
  simp [List.getD_eq_getElem?_getD, List.getElem?_eq_getElem e]
end Go.Proofs.YtfhcbgdonombaaaDoor
namespace Go.Proofs.YtfhcbgdonombaaaDoor
open Go.RowKit Go.Deep Go.ChangeShapes Go.WideShapes
/-- A slice of slices of ints, where a nil row has no room. -/
def RowsN (w : World) (v : Value) (m : List (List Int)) : Prop :=
  ∃ A cap, v = .slice A m.length cap ∧ m.length ≤ big ∧ ∀ i, i < m.length → ∃ b off Ar c, A = some ⟨b, off, none⟩ ∧ w.cell? ⟨b, off + i, none⟩ = some (.slice Ar (m.getD i []).length c) ∧ Ints w (.slice Ar (m.getD i []).length c) (m.getD i []) ∧ (Ar = none → c = 0)
theorem RowsN.rows {w : World} {v : Value} {m : List (List Int)} (h : RowsN w v m) : Rows w v m := by
  obtain ⟨A, cap, hv, hl, hc⟩ := h
  refine ⟨A, cap, hv, hl, fun i hi => ?_⟩
  obtain ⟨b, off, Ar, c, hA, hcell, hr, _⟩ := hc i hi
  exact ⟨b, off, _, hA, hcell, hr⟩
theorem RowsN.below {w w' : World} {v : Value} {m : List (List Int)} (h : RowsN w v m) (hb : Below w.heap.size w w') : RowsN w' v m := by
  obtain ⟨A, cap, hv, hl, hc⟩ := h
  refine ⟨A, cap, hv, hl, fun i hi => ?_⟩
  obtain ⟨b, off, Ar, c, hA, hcell, hr, hn⟩ := hc i hi
  exact ⟨b, off, Ar, c, hA, (hb.cell (p := ⟨b, off + i, none⟩) (World.block_lt_of_cell? _ _ hcell)).trans hcell, hr.below hb, hn⟩
section
variable {H : Type} {enc : TypeId × Value → H} {W : World} {base : Nat}
end
end Go.Proofs.YtfhcbgdonombaaaDoor
namespace Go.Proofs.YtfhcbgdonombaaaDoor
open Go.RowKit Go.Shelf
/-- Whether the one list of numbers comes before the other of as many. -/
def befB : List Int → List Int → Bool
  | x :: a, y :: b => if x = y then befB a b else decide (x < y)
  | _, _ => false
theorem befB_eq : ∀ l : List Int, befB l l = false
  | [] => rfl
  | x :: a => by rw [befB, if_pos rfl]; exact befB_eq a
theorem befB_at : ∀ (l m : List Int) (k : Nat), k < l.length → l.length = m.length → l.take k = m.take k → l.getD k 0 ≠ m.getD k 0 → befB l m = decide (l.getD k 0 < m.getD k 0)
  | [], _, k, h, _, _, _ => by simp at h
  | _ :: _, [], _, _, h, _, _ => by simp at h
  | x :: a, y :: b, 0, _, _, _, h4 => by
    simp only [List.getD_cons_zero] at h4 ⊢
    rw [befB, if_neg h4]
  | x :: a, y :: b, k + 1, h1, h2, h3, h4 => by
    simp only [List.take_succ_cons, List.cons.injEq] at h3
    simp only [List.getD_cons_succ] at h4 ⊢
    rw [befB, if_pos h3.1]
    exact befB_at a b k (by simpa using h1) (by simpa using h2) h3.2 h4
theorem befB_lex : ∀ (l m : List Int), befB l m = true → lexLt l m
  | [], _, h => by simp [befB] at h
  | _ :: _, [], h => by simp [befB] at h
  | x :: a, y :: b, h => by
    by_cases e : x = y
    · rw [befB, if_pos e] at h
      exact .inr ⟨e, befB_lex a b h⟩
    · rw [befB, if_neg e] at h
      exact .inl (of_decide_eq_true h)
set_option maxRecDepth 100000 in
set_option maxHeartbeats 1000000 in
theorem rBefore_any (v u : Value) (l m : List Int) (w : World) (h : Ints w v l) (hu : Ints w u m) (hlen : l.length = m.length) :
    Calls Tryd.prog 23 #[v, u] w fun e w' => e = .returned (.bool (befB l m)) ∧ Below w.heap.size w w' := by
  obtain ⟨A, cap, rfl, hl, hc⟩ := h
  obtain ⟨Au, capu, rfl, hlu, hcu⟩ := hu
  unfold big at hl hlu
  have Hlen := hid hlen
  have hd0 : decide ((l.length : Int) < (m.length : Int)) = false := by simp; omega
  clear hlen
  go_enter Tryd.func23, Tryd.ntmps23
  go_wp2
  go_loopw [5] (fun i wr => ∃ k : Nat, k ≤ l.length ∧ i = .int .i64 k ∧ l.take k = m.take k ∧ Below w.heap.size w wr) (fun i _ => l.length - (intOf i).toNat)
  case atStart => exact ⟨0, Nat.zero_le _, rfl, rfl, Below.refl _ _⟩
  case round =>
    obtain ⟨k, hk, rfl, htk, hB⟩ := hrel
    have Htk := hid htk
    clear htk
    by_cases hlt : k < l.length
    · have hle := Hlen.out
      obtain ⟨b, off, hA, hcell⟩ := hc k hlt
      obtain ⟨b', off', hA', hcell'⟩ := hcu k (by omega)
      subst hA
      subst hA'
      have c1 := (hB.cell (p := ⟨b, off + k, none⟩) (World.block_lt_of_cell? _ _ hcell)).trans hcell
      have c2 := (hB.cell (p := ⟨b', off' + k, none⟩) (World.block_lt_of_cell? _ _ hcell')).trans hcell'
      have Hs := hid (fun hx => take_eq_succ hlt Hlen.out Htk.out hx)
      have Hf := hid (fun hx => befB_at l m k hlt Hlen.out Htk.out hx)
      have i1 : (k : Int) < l.length := by omega
      have i2 : (k : Int) < m.length := by omega
      have d1 : decide ((k : Int) < (l.length : Int)) = true := by simp; omega
      have d2 : decide ((k : Int) < (m.length : Int)) = true := by simp; omega
      clear hc hcu hcell hcell' hle
      generalize l.getD k 0 = x at *
      generalize m.getD k 0 = y at *
      by_cases hxy : x = y
      · have hd : (x != y) = false := by simp [hxy]
        have Hxy := hid hxy
        clear hxy
        go_wp2_with fail
        go_quiet (fail)
        go_wp2
        go_roundw
        case rel => exact ⟨k + 1, by omega, by go_num, Hs.out Hxy.out, bdr hB _⟩
        case measure => simp [intOf]; omega
      · have hd : (x != y) = true := by simp [hxy]
        have Hxy := hid hxy
        clear hxy
        go_wp2_with fail
        go_quiet (fail)
        have hcell1 := c1
        go_wp2_with fail
        go_quiet (fail)
        go_wp2
        go_ret
        exact ⟨ret_bool (Hf.out Hxy.out).symm, bdr (bdr hB _) _⟩
    · have hlk : k = l.length := by omega
      have d1 : decide ((k : Int) < (l.length : Int)) = false := by simp; omega
      have he : l = m := by
        have h1 := Htk.out
        rw [hlk, List.take_length, Hlen.out, List.take_length] at h1
        exact h1
      go_wp2
      go_ret
      refine ⟨ret_bool ?_, hB⟩
      subst he
      rw [befB_eq]
      try simp
/-- A list's beginning. -/
theorem Ints.take {w : World} {A : Option Addr} {c : Nat} {l : List Int} (h : Ints w (.slice A l.length c) l) {k : Nat} (hk : k ≤ l.length) (d : Nat) : Ints w (.slice A k d) (l.take k) := by
  obtain ⟨A', c', hv, hl, hc⟩ := h
  simp only [Value.slice.injEq] at hv
  obtain ⟨rfl, -, rfl⟩ := hv
  have hlk : (l.take k).length = k := by simp; omega
  refine ⟨A, d, by rw [hlk], by omega, fun i hi => ?_⟩
  obtain ⟨b, off, hA, hcell⟩ := hc i (by omega)
  refine ⟨b, off, hA, ?_⟩
  rw [hcell]
  congr 2
  simp only [List.getD_eq_getElem?_getD, List.getElem?_take]
  rw [if_pos (by omega)]
end Go.Proofs.YtfhcbgdonombaaaDoor
namespace Go.Proofs.YtfhcbgdonombaaaDoor
open Go.RowKit Go.Shelf
set_option maxRecDepth 100000 in
set_option maxHeartbeats 2000000 in
theorem least_form (v u1 : Value) (m : List (List Int)) (ul : List Int) (w : World) (hT : Tab w) (h : Rows w v m) (hu1 : Ints w u1 ul) (hbad : (validM m && (decide (m.length ≤ 12) && isWordM m ul)) = false) :
    Calls Tryd.prog 6 #[.agg #[v], u1] w fun e w' => e = .returned (.bool true) ∧ Below w.heap.size w w' := by
  obtain ⟨A, cap, rfl, hml, -⟩ := id h
  obtain ⟨Au, capu, rfl, -, -⟩ := id hu1
  have hX := bal (Below.refl _ w) (.cells #[.slice A m.length cap] 24)
  have hbx := (Boxed.new w 24 (.slice A m.length cap)).cell
  have Hbad := hid hbad
  clear hbad
  go_enter Tryd.func6, Tryd.ntmps6
  go_wp2_with fail
  have hr := h.below hX
  have hTX := hT.on hX
  have hua := hu1.below hX
  generalize w.alloc (.cells #[.slice A m.length cap] 24) = X at *
  cases hv : validM m with
  | false =>
    refine (rValid_bool _ m false _ hr hv).mono ?_
    rintro e w1 ⟨rfl, h1⟩
    go_wp2_with fail
    refine (awake4_any w1 (hTX.on h1)).mono ?_
    rintro e w4 ⟨rfl, h4⟩
    go_wp2
    go_ret
    exact ⟨rfl, btr hX (btr h1 h4)⟩
  | true =>
    refine (rValid_bool _ m true _ hr hv).mono ?_
    rintro e w1 ⟨rfl, h1⟩
    have c1 := (h1.cell (p := ⟨w.heap.size, 0, none⟩) (World.block_lt_of_cell? _ _ hbx)).trans hbx
    by_cases h12 : m.length ≤ 12
    · have d1 : decide ((12 : Int) < m.length) = false := by simp; omega
      have hwv : isWordM m ul = false := by have := Hbad.out; rw [hv, decide_eq_true h12] at this; simpa using this
      go_wp2_with fail
      refine (rWord_bool _ _ m ul false _ (hr.below h1) hv (hua.below h1) hwv).mono ?_
      rintro e w2 ⟨rfl, h2⟩
      have B2 := btr h1 h2
      go_wp2_with fail
      refine (awake4_any w2 (hTX.on B2)).mono ?_
      rintro e w4 ⟨rfl, h4⟩
      go_wp2
      go_ret
      exact ⟨rfl, btr hX (btr B2 h4)⟩
    · have d1 : decide ((12 : Int) < m.length) = true := by simp; omega
      go_wp2_with fail
      refine (awake4_any w1 (hTX.on h1)).mono ?_
      rintro e w4 ⟨rfl, h4⟩
      go_wp2
      go_ret
      exact ⟨rfl, btr hX (btr h1 h4)⟩
/-- What Shortest returns beside what Rank does. -/
def ShortAs (r : Nat) (L : List Int) (c : Int) (l : List Int) : Prop := (r = 1 ∧ c = 0 ∧ l = L) ∨ (r ≠ 1 ∧ c = 4 ∧ l = [])
theorem Shortest_as (v : Value) (m : List (List Int)) (i0 : Nat) (c : Int) (l : List Int) (w : World) (hT : Tab w) (h : Rows w v m) (hv : validM m = true) (h12 : m.length ≤ 12) (hi0 : i0 < (imgF m).length)
    (hmin : ∀ j, j < (imgF m).length → szB (imgF m) i0 ≤ szB (imgF m) j) (hfirst : ∀ j, j < i0 → szB (imgF m) i0 < szB (imgF m) j) (hc : Hid (ShortAs (szB (imgF m) i0) (wordB (imgF m) i0) c l)) :
    Calls Tryd.prog 9 #[.agg #[v]] w fun e w' => ∃ A k, e = .returned (.tuple #[.slice A l.length k, .int .i64 c]) ∧ Ints w' (.slice A l.length k) l ∧ Below w.heap.size w w' := by
  refine (Shortest_ok v m w hT h hv h12).mono ?_
  rintro e w1 ⟨⟨i, r, hi, hs, hn, rfl, ho⟩ | ⟨hn, rfl⟩, hb⟩
  · have h1 := hmin i hi
    have h2 := szB_pos hv h12 hi0
    have hii : i = i0 := by
      rcases Nat.lt_trichotomy i i0 with e | e | e
      · have := hfirst i e; omega
      · exact e
      · have := hn i0 e; omega
    subst hii
    rcases hc.out with ⟨_, rfl, rfl⟩ | ⟨h3, _, _⟩
    · have hl := imgF_len hv h12 hi
      obtain ⟨A, k, rfl⟩ := ownsRow_slice ho
      exact ⟨A, k, rfl, Ints.of_own ho (by unfold big; omega), hb⟩
    · omega
  · rcases hc.out with ⟨h3, _, _⟩ | ⟨_, rfl, rfl⟩
    · exact absurd h3 (hn i0 hi0)
    · exact ⟨none, 0, rfl, Ints.nil _, hb⟩
theorem Rank_as (v : Value) (m : List (List Int)) (r : Nat) (L : List Int) (w : World) (hT : Tab w) (h : Rows w v m) (hv : validM m = true) (h12 : m.length ≤ 12) (hr : Hid ((rkS (imgF m) m.length (imgF m).length).1 = r)) (hL : Hid ((rkS (imgF m) m.length (imgF m).length).2 = L)) (hl : L.length ≤ 4096) :
    Calls Tryd.prog 15 #[.agg #[v]] w fun e w' => ∃ A k, e = .returned (.tuple #[.int .i64 (r : Nat), .slice A L.length k, .int .i64 0]) ∧ Ints w' (.slice A L.length k) L ∧ Below w.heap.size w w' := by
  refine (Rank_ok v m w hT h hv h12).mono ?_
  rintro e w1 ⟨rr, rfl, ho, hb⟩
  rw [hr.out, hL.out] at *
  obtain ⟨A, k, rfl⟩ := ownsRow_slice ho
  exact ⟨A, k, rfl, Ints.of_own ho (by unfold big; omega), hb⟩
/-- Any word leads to no fewer states than the rank; if to as many, then it is no shorter than the least word, nor before it. -/
theorem least_ok {m : List (List Int)} (hv : validM m = true) (h12 : m.length ≤ 12) {i0 : Nat} (hi0 : i0 < (imgF m).length) (hmin : ∀ j, j < (imgF m).length → szB (imgF m) i0 ≤ szB (imgF m) j) (hfirst : ∀ j, j < i0 → szB (imgF m) i0 < szB (imgF m) j)
    {ul : List Int} (hu : ul.all (inB 0 ((letters m : Int) - 1)) = true) : szB (imgF m) i0 ≤ (imageM m (allM m.length) ul).length ∧
      (szB (imgF m) i0 < (imageM m (allM m.length) ul).length ∨ (wordB (imgF m) i0).length < ul.length ∨ (ul.length = (wordB (imgF m) i0).length ∧ befB ul (wordB (imgF m) i0) = false)) := by
  obtain ⟨j, hj, hp, hle⟩ := imgF_has hv hu
  have hs := szB_image hv h12 hj hp
  rw [hs]
  have h1 := hmin j hj
  refine ⟨h1, ?_⟩
  by_cases h2 : szB (imgF m) i0 < szB (imgF m) j
  · exact .inl h2
  · right
    have hij : i0 ≤ j := Nat.le_of_not_lt fun hh => by have := hfirst j hh; omega
    have hSL : SLe (wordB (imgF m) i0) ul := by
      rcases Nat.lt_or_ge i0 j with e | e
      · exact .inr ((imgF_rise hv e hj).le hle)
      · obtain rfl : i0 = j := by omega
        exact hle
    rcases hSL with e | e | ⟨e, hlex⟩
    · right
      rw [e]; exact ⟨rfl, befB_eq _⟩
    · exact .inl e
    · right
      refine ⟨e.symm, ?_⟩
      cases hb : befB ul (wordB (imgF m) i0) with
      | false => rfl
      | true => exact absurd (lexLt.trans hlex (befB_lex _ _ hb)) (lexLt_irrefl _)
end Go.Proofs.YtfhcbgdonombaaaDoor
namespace Go.Proofs.YtfhcbgdonombaaaDoor
open Go.RowKit Go.Shelf
set_option maxRecDepth 100000 in
set_option maxHeartbeats 4000000 in
theorem least_walk (v u1 : Value) (m : List (List Int)) (ul : List Int) (i0 : Nat) (c : Int) (l : List Int) (w : World) (hT : Tab w) (h : Rows w v m) (hu1 : Ints w u1 ul) (hv : validM m = true) (h12 : m.length ≤ 12) (hwu : isWordM m ul = true)
    (hi0 : i0 < (imgF m).length) (hmin : ∀ j, j < (imgF m).length → szB (imgF m) i0 ≤ szB (imgF m) j) (hfirst : ∀ j, j < i0 → szB (imgF m) i0 < szB (imgF m) j)
    (hr1 : (rkS (imgF m) m.length (imgF m).length).1 = szB (imgF m) i0) (hr2 : (rkS (imgF m) m.length (imgF m).length).2 = wordB (imgF m) i0) (hcl : ShortAs (szB (imgF m) i0) (wordB (imgF m) i0) c l) :
    Calls Tryd.prog 6 #[.agg #[v], u1] w fun e w' => e = .returned (.bool true) ∧ Below w.heap.size w w' := by
  obtain ⟨p1, p2, -⟩ := valid_parts hv
  obtain ⟨A, cap, rfl, hml, -⟩ := id h
  obtain ⟨Au, capu, rfl, -, -⟩ := id hu1
  have hX := bal (Below.refl _ w) (.cells #[.slice A m.length cap] 24)
  have hbx := (Boxed.new w 24 (.slice A m.length cap)).cell
  have hlw : ul.length ≤ 40000 := by simp only [isWordM, Bool.and_eq_true, decide_eq_true_eq] at hwu; exact hwu.1
  obtain ⟨hk1, hk2⟩ := least_ok hv h12 hi0 hmin hfirst (isWordM_all hwu)
  have hs1 := szB_image hv h12 hi0 (imgF_word hv hi0).2
  have hLw := imgF_isWord hv h12 hi0
  have hLl := imgF_len hv h12 hi0
  have hshort := fun v w hT h => Shortest_as v m i0 c l w hT h hv h12 hi0 hmin hfirst (hid hcl)
  have hrank := fun v w hT h => Rank_as v m (szB (imgF m) i0) (wordB (imgF m) i0) w hT h hv h12 (hid hr1) (hid hr2) hLl
  generalize szB (imgF m) i0 = r at *
  generalize wordB (imgF m) i0 = L at *
  have Hshort := hid hshort
  have Hrank := hid hrank
  have Hwu := hid hwu
  have HLw := hid hLw
  have Hcl := hid hcl
  obtain ⟨I1, hI1⟩ : ∃ I, imageM m (allM m.length) L = I := ⟨_, rfl⟩
  obtain ⟨I2, hI2⟩ : ∃ I, imageM m (allM m.length) ul = I := ⟨_, rfl⟩
  rw [hI1] at hs1
  rw [hI2] at hk1 hk2
  have HI1 := hid hI1
  have HI2 := hid hI2
  have Hk2 := hid hk2
  have Hset := hid (allM_set m)
  have hd12 : decide ((12 : Int) < m.length) = false := by simp; omega
  clear hshort hrank hwu hLw hcl hI1 hI2 hk2 hi0 hmin hfirst hr1 hr2
  go_enter Tryd.func6, Tryd.ntmps6
  go_wp2_with fail
  have hr := h.below hX
  have hTX := hT.on hX
  have hua := hu1.below hX
  generalize w.alloc (.cells #[.slice A m.length cap] 24) = X at *
  refine (rValid_bool _ m true _ hr hv).mono ?_
  rintro e w1 ⟨rfl, h1⟩
  have c1 := (h1.cell (p := ⟨w.heap.size, 0, none⟩) (World.block_lt_of_cell? _ _ hbx)).trans hbx
  go_wp2_with fail
  refine (rWord_bool _ _ m ul true _ (hr.below h1) hv (hua.below h1) Hwu.out).mono ?_
  rintro e w2 ⟨rfl, h2⟩
  have B2 := btr h1 h2
  have c2 := (h2.cell (p := ⟨w.heap.size, 0, none⟩) (World.block_lt_of_cell? _ _ c1)).trans c1
  go_wp2_with fail
  refine (rAll_any m.length _ (by omega)).mono ?_
  rintro e w3 ⟨ra, rfl, ia, h3⟩
  have B3 := btr B2 h3
  have c3 := (h3.cell (p := ⟨w.heap.size, 0, none⟩) (World.block_lt_of_cell? _ _ c2)).trans c2
  go_wp2_with fail
  refine (Hshort.out _ _ (hTX.on B3) (hr.below B3)).mono ?_
  rintro e w4 ⟨A4, k4, rfl, i4, h4⟩
  have B4 := btr B3 h4
  have c4 := (h4.cell (p := ⟨w.heap.size, 0, none⟩) (World.block_lt_of_cell? _ _ c3)).trans c3
  have ia4 := ia.below h4
  go_wp2_with fail
  refine (Hrank.out _ _ (hTX.on B4) (hr.below B4)).mono ?_
  rintro e w5 ⟨A5, k5, rfl, i5, h5⟩
  have B5 := hid (btr B4 h5)
  have c5 := (h5.cell (p := ⟨w.heap.size, 0, none⟩) (World.block_lt_of_cell? _ _ c4)).trans c4
  have ia5 := ia4.below h5
  have i45 := i4.below h5
  clear c1 c2 c3 c4 h1 h2 h3 h4 h5 B2 B3 B4 ia ia4 i4 hbx
  have hfin : ∀ W, Below X.heap.size X W → Calls Tryd.prog 14 #[] W fun e w' => e = .returned (.bool true) ∧ Below W.heap.size W w' := fun W hb => awake4_any W (hTX.on hb)
  have Hfin := hid hfin
  clear hfin
  rcases Hcl.out with ⟨hr0, rfl, rfl⟩ | ⟨hr0, rfl, rfl⟩
  · subst hr0
    go_wp2_with fail
    refine (Image_as _ _ _ m (allM m.length) l I1 _ (hTX.on B5.out) (hr.below B5.out) ia5 i5 hv Hset.out HLw.out HI1).mono ?_
    rintro e w6 ⟨g6, rfl, i6, h6⟩
    obtain ⟨A6, k6, rfl, -, -⟩ := id i6
    have B6 := hid (btr B5.out h6)
    have c6 := (h6.cell (p := ⟨w.heap.size, 0, none⟩) (World.block_lt_of_cell? _ _ c5)).trans c5
    have hne : ((I1.length : Int) != 1) = false := by rw [hs1]; rfl
    have hne2 : (I1.length != 1) = false := by rw [hs1]; rfl
    go_wp2_with fail
    refine (rSame_eq _ _ l _ (i45.below h6) (i5.below h6)).mono ?_
    rintro e w7 ⟨rfl, h7⟩
    have B7 := hid (btr B6.out h7)
    have c7 := (h7.cell (p := ⟨w.heap.size, 0, none⟩) (World.block_lt_of_cell? _ _ c6)).trans c6
    have i57 := i5.below (btr h6 h7)
    have ia7 := ia5.below (btr h6 h7)
    clear h6 h7 c5 c6 i6 ia5 i45 i5 hne hne2
    go_wp2_with fail
    refine (Image_as _ _ _ m (allM m.length) ul I2 _ (hTX.on B7.out) (hr.below B7.out) ia7 (hua.below B7.out) hv Hset.out Hwu.out HI2).mono ?_
    rintro e w8 ⟨g8, rfl, i8, h8⟩
    obtain ⟨A8, k8, rfl, -, -⟩ := id i8
    have B8 := hid (btr B7.out h8)
    have i58 := i57.below h8
    have ha8 := hua.below B8.out
    clear h8 c7 i8 ia7 i57
    have z1 : decide ((I2.length : Int) < 1) = false := by simp; omega
    have z1n : ¬ I2.length < 1 := by omega
    by_cases hb : 1 < I2.length
    · have z2 : decide ((1 : Int) < I2.length) = true := by simp; omega
      go_wp2_with fail
      refine (Hfin.out _ B8.out).mono ?_
      rintro e w9 ⟨rfl, h9⟩
      go_wp2
      go_ret
      exact ⟨rfl, btr hX (btr B8.out h9)⟩
    · have z2 : decide ((1 : Int) < I2.length) = false := by simp; omega
      by_cases hlen : l.length < ul.length
      · have z3 : decide ((l.length : Int) < ul.length) = true := by simp; omega
        go_wp2_with fail
        refine (Hfin.out _ B8.out).mono ?_
        rintro e w9 ⟨rfl, h9⟩
        go_wp2
        go_ret
        exact ⟨rfl, btr hX (btr B8.out h9)⟩
      · have z3 : decide ((l.length : Int) < ul.length) = false := by simp; omega
        obtain ⟨he, hbf⟩ : ul.length = l.length ∧ befB ul l = false := by
          rcases Hk2.out with e | e | e
          · exact absurd e hb
          · exact absurd e hlen
          · exact e
        have z4 : ((ul.length : Int) == (l.length : Int)) = true := beq_iff_eq.2 (by omega)
        have z4n : (ul.length == l.length) = true := beq_iff_eq.2 he
        have hx := rBefore_any _ _ ul l _ ha8 i58 he
        rw [hbf] at hx
        have Hx := hid hx
        clear hx hbf he
        go_wp2_with fail
        refine Hx.out.mono ?_
        rintro e w9 ⟨rfl, h9⟩
        have B9 := hid (btr B8.out h9)
        go_wp2_with fail
        refine (Hfin.out _ B9.out).mono ?_
        rintro e w10 ⟨rfl, h10⟩
        go_wp2
        go_ret
        exact ⟨rfl, btr hX (btr B9.out h10)⟩
  · have hr1 : ((r : Int) == 1) = false := beq_eq_false_iff_ne.2 (by omega)
    have hr1n : (r == 1) = false := beq_eq_false_iff_ne.2 hr0
    have hne : ((I1.length : Int) != r) = false := by rw [hs1]; simp
    have hne2 : (I1.length != r) = false := by rw [hs1]; simp
    go_wp2_with fail
    refine (Image_as _ _ _ m (allM m.length) L I1 _ (hTX.on B5.out) (hr.below B5.out) ia5 i5 hv Hset.out HLw.out HI1).mono ?_
    rintro e w7 ⟨g6, rfl, i6, h6⟩
    obtain ⟨A6, k6, rfl, -, -⟩ := id i6
    have B7 := hid (btr B5.out h6)
    have c7 := (h6.cell (p := ⟨w.heap.size, 0, none⟩) (World.block_lt_of_cell? _ _ c5)).trans c5
    have i57 := i5.below h6
    have ia7 := ia5.below h6
    clear h6 c5 i6 ia5 i45 i5
    go_wp2_with fail
    refine (Image_as _ _ _ m (allM m.length) ul I2 _ (hTX.on B7.out) (hr.below B7.out) ia7 (hua.below B7.out) hv Hset.out Hwu.out HI2).mono ?_
    rintro e w8 ⟨g8, rfl, i8, h8⟩
    obtain ⟨A8, k8, rfl, -, -⟩ := id i8
    have B8 := hid (btr B7.out h8)
    have i58 := i57.below h8
    have ha8 := hua.below B8.out
    clear h8 c7 i8 ia7 i57
    have z1 : decide ((I2.length : Int) < r) = false := by simp; omega
    have z1n : ¬ I2.length < r := by omega
    by_cases hb : r < I2.length
    · have z2 : decide ((r : Int) < I2.length) = true := by simp; omega
      go_wp2_with fail
      refine (Hfin.out _ B8.out).mono ?_
      rintro e w9 ⟨rfl, h9⟩
      go_wp2
      go_ret
      exact ⟨rfl, btr hX (btr B8.out h9)⟩
    · have z2 : decide ((r : Int) < I2.length) = false := by simp; omega
      by_cases hlen : L.length < ul.length
      · have z3 : decide ((L.length : Int) < ul.length) = true := by simp; omega
        go_wp2_with fail
        refine (Hfin.out _ B8.out).mono ?_
        rintro e w9 ⟨rfl, h9⟩
        go_wp2
        go_ret
        exact ⟨rfl, btr hX (btr B8.out h9)⟩
      · have z3 : decide ((L.length : Int) < ul.length) = false := by simp; omega
        obtain ⟨he, hbf⟩ : ul.length = L.length ∧ befB ul L = false := by
          rcases Hk2.out with e | e | e
          · exact absurd e hb
          · exact absurd e hlen
          · exact e
        have z4 : ((ul.length : Int) == (L.length : Int)) = true := beq_iff_eq.2 (by omega)
        have z4n : (ul.length == L.length) = true := beq_iff_eq.2 he
        have hx := rBefore_any _ _ ul L _ ha8 i58 he
        rw [hbf] at hx
        have Hx := hid hx
        clear hx hbf he
        go_wp2_with fail
        refine Hx.out.mono ?_
        rintro e w9 ⟨rfl, h9⟩
        have B9 := hid (btr B8.out h9)
        go_wp2_with fail
        refine (Hfin.out _ B9.out).mono ?_
        rintro e w10 ⟨rfl, h10⟩
        go_wp2
        go_ret
        exact ⟨rfl, btr hX (btr B9.out h10)⟩
theorem shortLeast_any (v u1 : Value) (m : List (List Int)) (ul : List Int) (w : World) (hT : Tab w) (h : Rows w v m) (hu1 : Ints w u1 ul) :
    Calls Tryd.prog 6 #[.agg #[v], u1] w fun e w' => e = .returned (.bool true) ∧ Below w.heap.size w w' := by
  cases hbad : (validM m && (decide (m.length ≤ 12) && isWordM m ul)) with
  | false => exact least_form v u1 m ul w hT h hu1 hbad
  | true =>
    simp only [Bool.and_eq_true, decide_eq_true_eq] at hbad
    obtain ⟨hv, h12, hwu⟩ := hbad
    obtain ⟨i0, hi0, hr1, hr2, hmin, hfirst⟩ := rank_spec hv
    by_cases hr : szB (imgF m) i0 = 1
    · exact least_walk v u1 m ul i0 0 (wordB (imgF m) i0) w hT h hu1 hv h12 hwu hi0 hmin hfirst hr1 hr2 (.inl ⟨hr, rfl, rfl⟩)
    · exact least_walk v u1 m ul i0 4 [] w hT h hu1 hv h12 hwu hi0 hmin hfirst hr1 hr2 (.inr ⟨hr, rfl, rfl⟩)
end Go.Proofs.YtfhcbgdonombaaaDoor
