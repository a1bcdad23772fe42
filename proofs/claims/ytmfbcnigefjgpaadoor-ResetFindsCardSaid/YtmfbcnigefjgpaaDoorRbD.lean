/-
  Texts that the proof of the law stands on: W, V, O2, L9, G4.
-/
import Derived.Test.YtmfbcnigefjgpaaDoorRbC
import Derived.WalkKit
import Derived.ProofKit
import Derived.OpenShut
import Derived.Deep.DeepHandedRow
import Derived.Deep.DeepWitnessRowRef
import Derived.Lib.LaidTab
import Derived.Lib.LaidIn
import Derived.Lib.ItoaNum
import Derived.WideKeyArgs
import Derived.Test.YtmfbcnigefjgpaaDoorRows
import Derived.Deep.CutRange
namespace Go.Proofs.YtmfbcnigefjgpaaDoor
open Go.ChangeShapes Go.WideShapes Go.ChangeAt Go.RowKit
theorem own : ownKnob Tryd.prog.godebug = none := by kernel_rfl
theorem gTab : Tryd.prog.globalNamed "math/bits.deBruijn64tab" = some 0 := by kernel_rfl
theorem gTabType : (Tryd.prog.globals[0]?).map (·.type) = some 87 := by kernel_rfl
theorem cellsTab : Tryd.prog.cellsOf 87 = 64 := by kernel_rfl
theorem cellsU8 : Tryd.prog.cellsOf 5 = 1 := by kernel_rfl
section
variable {H : Type} {enc : TypeId × Value → H}
/-- All arguments read as they did. -/
theorem TrodAll_stays {P : Program} (hl : laidOutB P = true) {W W' : World} {sp : Nat → Bool} : ∀ {ts : List TypeId} {vs : List Value} {ds : List (DataW H)} {ps : List MemPlace},
    (∀ t ∈ ts, P.readableRec t = true ∧ t < P.types.size) → DataW.TrodAll enc P W 0 (fun _ => true) true ts vs ds ps → (∀ x ∈ ps, W.sameAt W' x) → (∀ x ∈ ps, sp x.block = true) → DataW.TrodAll enc P W' 0 sp true ts vs ds ps
  | [], vs, ds, ps, _, h, _, _ => by cases vs <;> cases ds <;> simp_all [DataW.TrodAll]
  | t :: ts, vs, ds, ps, ht, h, hs, hsp => by
    obtain ⟨v, vs', d, ds', p, q, rfl, rfl, rfl, h0, r0⟩ := trodAll_cons h
    exact trodAll_cons_mk (WideElems.Trod_stays hl (ht t (by simp)).1 (ht t (by simp)).2 h0 (fun x hx => hs x (List.mem_append_left _ hx)) (fun x hx => hsp x (List.mem_append_left _ hx)))
      (TrodAll_stays hl (fun u hu => ht u (by simp [hu])) r0 (fun x hx => hs x (List.mem_append_right _ hx)) (fun x hx => hsp x (List.mem_append_right _ hx)))
set_option maxRecDepth 100000 in
/-- An automaton that came in. -/
theorem auto_of {W : World} {base : Nat} {v : Value} {d : DataW H} {p : List MemPlace} (hv : Value.okWide Tryd.prog W .any base 24 v) (h : DataW.Trod enc Tryd.prog W 0 (fun _ => true) true 24 v d p)
    (hw : ∀ n ∈ d.weights Tryd.prog 24, n ≤ reachBytes) : ∃ c m, v = .agg #[c] ∧ Rows W c m := by
  obtain ⟨cs, rfl, hs⟩ := okWide_struct Tryd.underlying24 hv
  rw [cells_auto] at hs
  obtain ⟨c, rfl⟩ : ∃ c, cs = #[c] := by
    match cs, hs with
    | ⟨[c]⟩, _ => exact ⟨c, rfl⟩
  obtain ⟨fuel, hf⟩ := h
  obtain ⟨y0, n, hx, _, h0⟩ := trod_struct1 Tryd.underlying24 hf
  have hd : d = .agg [y0.1] := (Prod.mk.inj hx).1
  subst hd
  obtain ⟨m, hm⟩ := rows_of_trod (fuel := n) (c := c) (x := y0) h0 (fun k hk => hw k (by
    rw [DataW.weights, Tryd.underlying24]
    simp only [List.map_cons, List.map_nil, DataW.weightsEach, List.append_nil]
    exact hk))
  exact ⟨c, m, rfl, hm⟩
set_option maxRecDepth 100000 in
/-- A list of numbers that came in. -/
theorem list_of {W : World} {base : Nat} {v : Value} {d : DataW H} {p : List MemPlace} (hv : Value.okWide Tryd.prog W .any base 25 v) (h : DataW.Trod enc Tryd.prog W 0 (fun _ => true) true 25 v d p)
    (hw : ∀ n ∈ d.weights Tryd.prog 25, n ≤ reachBytes) : ∃ l, Ints W v l := by
  obtain ⟨a, len, cap, rfl⟩ := okWide_slice Tryd.underlying25 hv
  obtain ⟨fuel, hf⟩ := h
  exact ints_of_trod hf hw
set_option maxRecDepth 100000 in
/-- A nil list has no room. -/
theorem list_nil_of {W : World} {base : Nat} {v : Value} {d : DataW H} {p : List MemPlace} (hv : Value.okWide Tryd.prog W .any base 25 v) (h : DataW.Trod enc Tryd.prog W 0 (fun _ => true) true 25 v d p) : ∀ A n c, v = .slice A n c → A = none → c = 0 := by
  obtain ⟨a, len, cap, rfl⟩ := okWide_slice Tryd.underlying25 hv
  obtain ⟨fuel, hf⟩ := h
  rintro A n c hA rfl
  simp only [Value.slice.injEq] at hA
  obtain ⟨rfl, rfl, rfl⟩ := hA
  have hf' : DataW.trod enc Tryd.prog W 0 (fun _ => true) true fuel 25 [.slice none len cap] = some (d, p) := hf
  rcases Go.ChangeShapes.open_ints Tryd.underlying25 Tryd.underlying3 cells_int hf' with ⟨hc, _⟩ | ⟨a, _, _, _, hc, _⟩
  · simp only [List.cons.injEq, Value.slice.injEq] at hc
    exact hc.1.2.2
  · simp at hc
set_option maxRecDepth 100000 in
/-- A list that came in has no more elements than room. -/
theorem list_cap_of {W : World} {base : Nat} {v : Value} {d : DataW H} {p : List MemPlace} (hv : Value.okWide Tryd.prog W .any base 25 v) (h : DataW.Trod enc Tryd.prog W 0 (fun _ => true) true 25 v d p) : ∀ A n c, v = .slice A n c → n ≤ c := by
  obtain ⟨a, len, cap, rfl⟩ := okWide_slice Tryd.underlying25 hv
  obtain ⟨fuel, hf⟩ := h
  intro A n c hA
  simp only [Value.slice.injEq] at hA
  obtain ⟨rfl, rfl, rfl⟩ := hA
  have hf' : DataW.trod enc Tryd.prog W 0 (fun _ => true) true fuel 25 [.slice a len cap] = some (d, p) := hf
  rcases Go.ChangeShapes.open_ints Tryd.underlying25 Tryd.underlying3 cells_int hf' with ⟨hc, _⟩ | ⟨a, _, _, _, hc, _, hl, _⟩
  · simp only [List.cons.injEq, Value.slice.injEq] at hc
    omega
  · simp only [List.cons.injEq, Value.slice.injEq] at hc
    omega
theorem weight_of {P : Program} {ts : List TypeId} {ds : List (DataW H)} (h : (DataW.weightsEach P ts ds).all (· ≤ reachBytes) = true) {j : Nat} {t : TypeId} {d : DataW H} (ht : ts[j]? = some t) (hd : ds[j]? = some d) : ∀ n ∈ d.weights P t, n ≤ reachBytes := by
  intro n hn
  have := List.all_eq_true.1 h _ (DataW.weights_mem_each ht hd n hn)
  simpa using this
end
end Go.Proofs.YtmfbcnigefjgpaaDoor
namespace Go.Proofs.YtmfbcnigefjgpaaDoor
open Go.ChangeShapes Go.WideShapes Go.ChangeAt Go.RowKit
noncomputable def laidWorld2 (os : Os) : World :=
  let w0 := World.holding Tryd.prog os ⟨#[], #[], []⟩
  let put (h : Array Obj) (g : Nat) (cs : Array Value) : Array Obj := h.modify g fun
    | .cells _ t frozen => .cells cs t frozen
    | o => o
  { w0 with heap := put w0.heap 0 (Lib.deBruijn64tab.map fun z : Nat => Value.int .u8 z).toArray }
set_option maxRecDepth 1000000 in
theorem laid_met2 (os : Os) (args : Array Value) : laidMet Tryd.prog Rows.resetMergesRow.laid ((laidWorld2 os).forCall (fun _ _ => 0) ⟨#[], args, []⟩).memory :=
  (LaidIn.of_run (l := Rows.resetMergesRow.laid) [0] 8 (by kernel_rfl) (by kernel_rfl) (by kernel_rfl) (by kernel_rfl)).met
/-- The table of the least bit, out of the list. -/
theorem tab_of2 {W : World} (h : laidMetH Tryd.prog Rows.resetMergesRow.laid W) : Tab W := by
  have h1 : laidMet Tryd.prog Rows.resetMergesRow.laid W := h
  have h2 : laidMet Tryd.prog (("math/bits.deBruijn64tab", Lib.tabData .u8 (Lib.deBruijn64tab.map fun x : Nat => (x : Int))) :: Rows.resetMergesRow.laid.drop 1) W := h1
  have h3 := Lib.tabIs_of_head gTab gTabType Tryd.underlying87 Tryd.underlying5 cellsU8 cellsTab h2
  intro j hj
  have h4 := h3.cell gTab j (by rw [List.length_map]; exact hj)
  rw [h4]
  have e : j < Lib.deBruijn64tab.length := hj
  simp [List.getD_eq_getElem?_getD, List.getElem?_eq_getElem e]
end Go.Proofs.YtmfbcnigefjgpaaDoor
namespace Go.Proofs.YtmfbcnigefjgpaaDoor
open Go.RowKit Go.Deep Go.ChangeShapes Go.WideShapes
/-- A slice of slices of ints, where a nil row has no room. -/
def RowsN (w : World) (v : Value) (m : List (List Int)) : Prop :=
  ∃ A cap, v = .slice A m.length cap ∧ m.length ≤ big ∧ ∀ i, i < m.length → ∃ b off Ar c, A = some ⟨b, off, none⟩ ∧ w.cell? ⟨b, off + i, none⟩ = some (.slice Ar (m.getD i []).length c) ∧ Ints w (.slice Ar (m.getD i []).length c) (m.getD i []) ∧ (Ar = none → c = 0)
theorem RowsN.rows {w : World} {v : Value} {m : List (List Int)} (h : RowsN w v m) : Rows w v m := by
  obtain ⟨A, cap, hv, hl, hc⟩ := h
  refine ⟨A, cap, hv, hl, fun i hi => ?_⟩
  obtain ⟨b, off, Ar, c, hA, hcell, hr, _⟩ := hc i hi
  exact ⟨b, off, _, hA, hcell, hr⟩
theorem RowsN.below {w w' : World} {v : Value} {m : List (List Int)} (h : RowsN w v m) (hb : Below w.heap.size w w') : RowsN w' v m := by
  obtain ⟨A, cap, hv, hl, hc⟩ := h
  refine ⟨A, cap, hv, hl, fun i hi => ?_⟩
  obtain ⟨b, off, Ar, c, hA, hcell, hr, hn⟩ := hc i hi
  exact ⟨b, off, Ar, c, hA, (hb.cell (p := ⟨b, off + i, none⟩) (World.block_lt_of_cell? _ _ hcell)).trans hcell, hr.below hb, hn⟩
section
variable {H : Type} {enc : TypeId × Value → H} {W : World} {base : Nat}
end
end Go.Proofs.YtmfbcnigefjgpaaDoor
namespace Go.Proofs.YtmfbcnigefjgpaaDoor
open Go.RowKit Go.Shelf
theorem Run_as (v u : Value) (m : List (List Int)) (s t : Nat) (ul : List Int) (w : World) (h : Rows w v m) (hu : Ints w u ul) (hv : validM m = true) (hs : s < m.length) (hw : isWordM m ul = true) (ht : Hid (runM m s ul = t)) :
    Calls Tryd.prog 27 #[.agg #[v], .int .i64 s, u] w (NumIs w t 0) := by
  rw [← ht.out]; exact Run_ok v u m s ul w h hu hv hs hw
end Go.Proofs.YtmfbcnigefjgpaaDoor
namespace Go.Proofs.YtmfbcnigefjgpaaDoor
open Go.RowKit Go.Shelf
/-- Whether the one list of numbers comes before the other of as many. -/
def befB : List Int → List Int → Bool
  | x :: a, y :: b => if x = y then befB a b else decide (x < y)
  | _, _ => false
theorem befB_eq : ∀ l : List Int, befB l l = false
  | [] => rfl
  | x :: a => by rw [befB, if_pos rfl]; exact befB_eq a
theorem befB_at : ∀ (l m : List Int) (k : Nat), k < l.length → l.length = m.length → l.take k = m.take k → l.getD k 0 ≠ m.getD k 0 → befB l m = decide (l.getD k 0 < m.getD k 0)
  | [], _, k, h, _, _, _ => by simp at h
  | _ :: _, [], _, _, h, _, _ => by simp at h
  | x :: a, y :: b, 0, _, _, _, h4 => by
    simp only [List.getD_cons_zero] at h4 ⊢
    rw [befB, if_neg h4]
  | x :: a, y :: b, k + 1, h1, h2, h3, h4 => by
    simp only [List.take_succ_cons, List.cons.injEq] at h3
    simp only [List.getD_cons_succ] at h4 ⊢
    rw [befB, if_pos h3.1]
    exact befB_at a b k (by simpa using h1) (by simpa using h2) h3.2 h4
theorem befB_lex : ∀ (l m : List Int), befB l m = true → lexLt l m
  | [], _, h => by simp [befB] at h
  | _ :: _, [], h => by simp [befB] at h
  | x :: a, y :: b, h => by
    by_cases e : x = y
    · rw [befB, if_pos e] at h
      exact .inr ⟨e, befB_lex a b h⟩
    · rw [befB, if_neg e] at h
      exact .inl (of_decide_eq_true h)
set_option maxRecDepth 100000 in
set_option maxHeartbeats 1000000 in
theorem rBefore_any (v u : Value) (l m : List Int) (w : World) (h : Ints w v l) (hu : Ints w u m) (hlen : l.length = m.length) :
    Calls Tryd.prog 28 #[v, u] w fun e w' => e = .returned (.bool (befB l m)) ∧ Below w.heap.size w w' := by
  obtain ⟨A, cap, rfl, hl, hc⟩ := h
  obtain ⟨Au, capu, rfl, hlu, hcu⟩ := hu
  unfold big at hl hlu
  have Hlen := hid hlen
  have hd0 : decide ((l.length : Int) < (m.length : Int)) = false := by simp; omega
  clear hlen
  go_enter Tryd.func28, Tryd.ntmps28
  go_wp2
  go_loopw [5] (fun i wr => ∃ k : Nat, k ≤ l.length ∧ i = .int .i64 k ∧ l.take k = m.take k ∧ Below w.heap.size w wr) (fun i _ => l.length - (intOf i).toNat)
  case atStart => exact ⟨0, Nat.zero_le _, rfl, rfl, Below.refl _ _⟩
  case round =>
    obtain ⟨k, hk, rfl, htk, hB⟩ := hrel
    have Htk := hid htk
    clear htk
    by_cases hlt : k < l.length
    · have hle := Hlen.out
      obtain ⟨b, off, hA, hcell⟩ := hc k hlt
      obtain ⟨b', off', hA', hcell'⟩ := hcu k (by omega)
      subst hA
      subst hA'
      have c1 := (hB.cell (p := ⟨b, off + k, none⟩) (World.block_lt_of_cell? _ _ hcell)).trans hcell
      have c2 := (hB.cell (p := ⟨b', off' + k, none⟩) (World.block_lt_of_cell? _ _ hcell')).trans hcell'
      have Hs := hid (fun hx => take_eq_succ hlt Hlen.out Htk.out hx)
      have Hf := hid (fun hx => befB_at l m k hlt Hlen.out Htk.out hx)
      have i1 : (k : Int) < l.length := by omega
      have i2 : (k : Int) < m.length := by omega
      have d1 : decide ((k : Int) < (l.length : Int)) = true := by simp; omega
      have d2 : decide ((k : Int) < (m.length : Int)) = true := by simp; omega
      clear hc hcu hcell hcell' hle
      generalize l.getD k 0 = x at *
      generalize m.getD k 0 = y at *
      by_cases hxy : x = y
      · have hd : (x != y) = false := by simp [hxy]
        have Hxy := hid hxy
        clear hxy
        go_wp2_with fail
        go_quiet (fail)
        go_wp2
        go_roundw
        case rel => exact ⟨k + 1, by omega, by go_num, Hs.out Hxy.out, bdr hB _⟩
        case measure => simp [intOf]; omega
      · have hd : (x != y) = true := by simp [hxy]
        have Hxy := hid hxy
        clear hxy
        go_wp2_with fail
        go_quiet (fail)
        have hcell1 := c1
        go_wp2_with fail
        go_quiet (fail)
        go_wp2
        go_ret
        exact ⟨ret_bool (Hf.out Hxy.out).symm, bdr (bdr hB _) _⟩
    · have hlk : k = l.length := by omega
      have d1 : decide ((k : Int) < (l.length : Int)) = false := by simp; omega
      have he : l = m := by
        have h1 := Htk.out
        rw [hlk, List.take_length, Hlen.out, List.take_length] at h1
        exact h1
      go_wp2
      go_ret
      refine ⟨ret_bool ?_, hB⟩
      subst he
      rw [befB_eq]
      try simp
/-- A word that merges is no shorter than what Merge returns, and if it is as long, then it doesn't come before it. -/
theorem merged_ok {m : List (List Int)} (hv : validM m = true) {p q : Nat} (hp : p < m.length) (hq : q < m.length) {c : Int} {u : List Int} (h : MergeRes m p q c u) {l : List Int} (hl : isWordM m l = true) {k : Nat} (hk : k ≤ l.length)
    (he : runM m p (l.take k) = runM m q (l.take k)) : c = 0 ∧ u.length ≤ k ∧ (k = u.length → befB (l.take k) u = false) := by
  have hall : (l.take k).all (inB 0 ((letters m : Int) - 1)) = true := all_take _ _ (isWordM_all hl) k
  have hlk : (l.take k).length = k := by simp; omega
  have hm : mergeP m p q k := ⟨_, hall, hlk, he⟩
  rcases h with ⟨h1, rfl, rfl⟩ | ⟨j, h1, rfl, rfl⟩
  · exfalso
    rcases mlen_spec hv hp hq with ⟨_, h2⟩ | ⟨j, _, h2, _⟩
    · exact h2 k hm
    · omega
  · obtain ⟨_, a2, _⟩ := mW_ok hv j p q hp hq h1
    have hjk : j ≤ k := Nat.le_of_not_lt fun hh => h1.2 k hh hm
    refine ⟨rfl, by omega, fun e => ?_⟩
    rcases mW_least hv j p q hp hq h1 _ hall (by omega) he with e2 | e2
    · rw [← e2]; exact befB_eq _
    · cases hb : befB (l.take k) (mW m j p q) with
      | false => rfl
      | true => exact absurd (lexLt.trans e2 (befB_lex _ _ hb)) (lexLt_irrefl _)
theorem mergeRes_run {m : List (List Int)} (hv : validM m = true) {p q : Nat} (hp : p < m.length) (hq : q < m.length) {u : List Int} (h : MergeRes m p q 0 u) : runM m p u = runM m q u := by
  rcases h with ⟨_, h2, _⟩ | ⟨j, h1, _, rfl⟩
  · cases h2
  · exact (mW_ok hv j p q hp hq h1).2.2
/-- A list's beginning. -/
theorem Ints.take {w : World} {A : Option Addr} {c : Nat} {l : List Int} (h : Ints w (.slice A l.length c) l) {k : Nat} (hk : k ≤ l.length) (d : Nat) : Ints w (.slice A k d) (l.take k) := by
  obtain ⟨A', c', hv, hl, hc⟩ := h
  simp only [Value.slice.injEq] at hv
  obtain ⟨rfl, -, rfl⟩ := hv
  have hlk : (l.take k).length = k := by simp; omega
  refine ⟨A, d, by rw [hlk], by omega, fun i hi => ?_⟩
  obtain ⟨b, off, hA, hcell⟩ := hc i (by omega)
  refine ⟨b, off, hA, ?_⟩
  rw [hcell]
  congr 2
  simp only [List.getD_eq_getElem?_getD, List.getElem?_take]
  rw [if_pos (by omega)]
theorem isWordM_take {m : List (List Int)} {l : List Int} (h : isWordM m l = true) (k : Nat) : isWordM m (l.take k) = true := by
  simp only [isWordM, Bool.and_eq_true, decide_eq_true_eq] at h ⊢
  exact ⟨by simp; omega, all_take _ _ h.2 k⟩
set_option maxRecDepth 100000 in
set_option maxHeartbeats 2000000 in
theorem merged_form (v u1 : Value) (m : List (List Int)) (p q : Int) (ul : List Int) (w : World) (hT : Tab w) (h : Rows w v m) (hu1 : Ints w u1 ul) (hbad : (validM m && (stateM m p && (stateM m q && isWordM m ul))) = false) :
    Calls Tryd.prog 7 #[.agg #[v], .int .i64 p, .int .i64 q, u1] w fun e w' => e = .returned (.bool true) ∧ Below w.heap.size w w' := by
  obtain ⟨A, cap, rfl, hml, -⟩ := id h
  obtain ⟨Au, capu, rfl, -, -⟩ := id hu1
  have hX := bal (Below.refl _ w) (.cells #[.slice A m.length cap] 24)
  have hbx := (Boxed.new w 24 (.slice A m.length cap)).cell
  have Hbad := hid hbad
  clear hbad
  go_enter Tryd.func7, Tryd.ntmps7
  go_wp2_with fail
  have hr := h.below hX
  have hTX := hT.on hX
  have hua := hu1.below hX
  generalize w.alloc (.cells #[.slice A m.length cap] 24) = X at *
  cases hv : validM m with
  | false =>
    refine (rValid_bool _ m false _ hr hv).mono ?_
    rintro e w1 ⟨rfl, h1⟩
    go_wp2_with fail
    refine (awake3_any w1 (hTX.on h1)).mono ?_
    rintro e w4 ⟨rfl, h4⟩
    go_wp2
    go_ret
    exact ⟨rfl, btr hX (btr h1 h4)⟩
  | true =>
    refine (rValid_bool _ m true _ hr hv).mono ?_
    rintro e w1 ⟨rfl, h1⟩
    have c1 := (h1.cell (p := ⟨w.heap.size, 0, none⟩) (World.block_lt_of_cell? _ _ hbx)).trans hbx
    have hr1 := hr.below h1
    cases hsp : stateM m p with
    | false =>
      go_wp2_with fail
      refine (rState_bool _ m p false _ hr1 hsp).mono ?_
      rintro e w2 ⟨rfl, h2⟩
      have B2 := btr h1 h2
      go_wp2_with fail
      refine (awake3_any w2 (hTX.on B2)).mono ?_
      rintro e w4 ⟨rfl, h4⟩
      go_wp2
      go_ret
      exact ⟨rfl, btr hX (btr B2 h4)⟩
    | true =>
      go_wp2_with fail
      refine (rState_bool _ m p true _ hr1 hsp).mono ?_
      rintro e w2 ⟨rfl, h2⟩
      have B2 := btr h1 h2
      have c2 := (h2.cell (p := ⟨w.heap.size, 0, none⟩) (World.block_lt_of_cell? _ _ c1)).trans c1
      cases hsq : stateM m q with
      | false =>
        go_wp2_with fail
        refine (rState_bool _ m q false _ (hr.below B2) hsq).mono ?_
        rintro e w3 ⟨rfl, h3⟩
        have B3 := btr B2 h3
        go_wp2_with fail
        refine (awake3_any w3 (hTX.on B3)).mono ?_
        rintro e w4 ⟨rfl, h4⟩
        go_wp2
        go_ret
        exact ⟨rfl, btr hX (btr B3 h4)⟩
      | true =>
        go_wp2_with fail
        refine (rState_bool _ m q true _ (hr.below B2) hsq).mono ?_
        rintro e w3 ⟨rfl, h3⟩
        have B3 := btr B2 h3
        have c3 := (h3.cell (p := ⟨w.heap.size, 0, none⟩) (World.block_lt_of_cell? _ _ c2)).trans c2
        have hwv : isWordM m ul = false := by have := Hbad.out; rw [hv, hsp, hsq] at this; simpa using this
        go_wp2_with fail
        refine (rWord_bool _ _ m ul false _ (hr.below B3) hv (hua.below B3) hwv).mono ?_
        rintro e w4 ⟨rfl, h4⟩
        have B4 := btr B3 h4
        go_wp2_with fail
        refine (awake3_any w4 (hTX.on B4)).mono ?_
        rintro e w5 ⟨rfl, h5⟩
        go_wp2
        go_ret
        exact ⟨rfl, btr hX (btr B4 h5)⟩
set_option maxRecDepth 100000 in
set_option maxHeartbeats 4000000 in
theorem merged_walk (v u1 : Value) (m : List (List Int)) (p q : Nat) (ul : List Int) (c : Int) (u : List Int) (w : World) (hT : Tab w) (h : Rows w v m) (hu1 : Ints w u1 ul) (hcap : ∀ A n c, u1 = .slice A n c → n ≤ c)
    (hv : validM m = true) (hp : p < m.length) (hq : q < m.length) (hwu : isWordM m ul = true) (hres : Hid (MergeRes m p q c u)) :
    Calls Tryd.prog 7 #[.agg #[v], .int .i64 p, .int .i64 q, u1] w fun e w' => e = .returned (.bool true) ∧ Below w.heap.size w w' := by
  obtain ⟨p1, p2, -⟩ := valid_parts hv
  obtain ⟨A, cap, rfl, hml, -⟩ := id h
  obtain ⟨Au, capu, rfl, -, -⟩ := id hu1
  replace hcap := hcap _ _ _ rfl
  have hX := bal (Below.refl _ w) (.cells #[.slice A m.length cap] 24)
  have hbx := (Boxed.new w 24 (.slice A m.length cap)).cell
  have hsp : stateM m (p : Int) = true := by unfold stateM; exact inB_true ⟨by omega, by omega⟩
  have hsq : stateM m (q : Int) = true := by unfold stateM; exact inB_true ⟨by omega, by omega⟩
  have Hsp := hid hsp
  have Hsq := hid hsq
  have Hwu := hid hwu
  have hul := (mergeRes_len hv hp hq hres.out).1
  have hua := (mergeRes_len hv hp hq hres.out).2.2
  have huw : isWordM m u = true := by simp only [isWordM, Bool.and_eq_true, decide_eq_true_eq]; exact ⟨by omega, hua⟩
  have Huw := hid huw
  have hbig : u.length ≤ big := by unfold big; omega
  have hlw : ul.length ≤ 40000 := by simp only [isWordM, Bool.and_eq_true, decide_eq_true_eq] at hwu; exact hwu.1
  have hc04 := hid (mergeRes_len hv hp hq hres.out).2.1
  clear hsp hsq hwu hua huw
  go_enter Tryd.func7, Tryd.ntmps7
  go_wp2_with fail
  have hr := h.below hX
  have hTX := hT.on hX
  have hww := hu1.below hX
  generalize w.alloc (.cells #[.slice A m.length cap] 24) = X at *
  refine (rValid_bool _ m true _ hr hv).mono ?_
  rintro e w1 ⟨rfl, h1⟩
  have c1 := (h1.cell (p := ⟨w.heap.size, 0, none⟩) (World.block_lt_of_cell? _ _ hbx)).trans hbx
  go_wp2_with fail
  refine (rState_bool _ m p true _ (hr.below h1) Hsp.out).mono ?_
  rintro e w2 ⟨rfl, h2⟩
  have B2 := btr h1 h2
  have c2 := (h2.cell (p := ⟨w.heap.size, 0, none⟩) (World.block_lt_of_cell? _ _ c1)).trans c1
  go_wp2_with fail
  refine (rState_bool _ m q true _ (hr.below B2) Hsq.out).mono ?_
  rintro e w3 ⟨rfl, h3⟩
  have B3 := btr B2 h3
  have c3 := (h3.cell (p := ⟨w.heap.size, 0, none⟩) (World.block_lt_of_cell? _ _ c2)).trans c2
  go_wp2_with fail
  refine (rWord_bool _ _ m ul true _ (hr.below B3) hv (hww.below B3) Hwu.out).mono ?_
  rintro e w4 ⟨rfl, h4⟩
  have B4 := btr B3 h4
  have c4 := (h4.cell (p := ⟨w.heap.size, 0, none⟩) (World.block_lt_of_cell? _ _ c3)).trans c3
  go_wp2_with fail
  refine (Merge_res _ m p q c u _ (hr.below B4) hv hp hq hres).mono ?_
  rintro e w5 ⟨uA, uk, rfl, hou, h5⟩
  have B5 := btr B4 h5
  have c5 := (h5.cell (p := ⟨w.heap.size, 0, none⟩) (World.block_lt_of_cell? _ _ c4)).trans c4
  have HU := hid (Ints.of_own hou hbig)
  have HB5 := hid B5
  clear hou c1 c2 c3 c4 h1 h2 h3 h4 h5 B2 B3 B4 B5 hbx
  rcases hc04.out with rfl | rfl
  · have Hrun := hid (mergeRes_run hv hp hq hres.out)
    obtain ⟨t, ht⟩ : ∃ t, runM m p u = t := ⟨_, rfl⟩
    have Hp := hid ht
    have Hq := hid (Hrun.out.symm.trans ht)
    clear ht
    have hdt : ((t : Int) != (t : Int)) = false := by simp
    go_wp2_with fail
    refine (Run_as _ _ m p t u _ (hr.below HB5.out) HU.out hv hp Huw.out Hp).mono ?_
    rintro e w6 ⟨rfl, h6⟩
    have B6 := hid (btr HB5.out h6)
    have c6 := (h6.cell (p := ⟨w.heap.size, 0, none⟩) (World.block_lt_of_cell? _ _ c5)).trans c5
    have HU6 := hid (HU.out.below h6)
    clear h6 c5 HU HB5
    go_wp2_with fail
    refine (Run_as _ _ m q t u _ (hr.below B6.out) HU6.out hv hq Huw.out Hq).mono ?_
    rintro e w7 ⟨rfl, h7⟩
    have HB5 := hid (btr B6.out h7)
    have c5 := (h7.cell (p := ⟨w.heap.size, 0, none⟩) (World.block_lt_of_cell? _ _ c6)).trans c6
    have HU := hid (HU6.out.below h7)
    clear h7 c6 HU6 B6 Hp Hq
    clear hdt
    generalize w7 = W0 at *
    go_wp2_with fail
    go_loopw [15] (fun kv wr => ∃ k : Nat, k ≤ ul.length + 1 ∧ kv = .int .i64 k ∧ Below W0.heap.size W0 wr) (fun kv _ => ul.length + 1 - (intOf kv).toNat)
    case atStart => exact ⟨0, by omega, rfl, Below.refl _ _⟩
    case round =>
      obtain ⟨k, hk, rfl, hB⟩ := hrel
      have BX := hid (btr HB5.out hB)
      by_cases hkl : k ≤ ul.length
      · by_cases hk2 : k ≤ 200
        · have d1 : decide ((k : Int) ≤ (ul.length : Int)) = true := by simp; omega
          have d2 : decide ((k : Int) ≤ 200) = true := by simp; omega
          have hkc : (k : Int) ≤ capu := by omega
          have hk0 : (0 : Int) ≤ k := by omega
          have cr := (hB.cell (p := ⟨w.heap.size, 0, none⟩) (World.block_lt_of_cell? _ _ c5)).trans c5
          have Hwk := hid (isWordM_take Hwu.out k)
          have Hkl := hid hkl
          obtain ⟨s, hs⟩ : ∃ s, runM m p (ul.take k) = s := ⟨_, rfl⟩
          obtain ⟨t', ht'⟩ : ∃ s, runM m q (ul.take k) = s := ⟨_, rfl⟩
          have Hs := hid hs
          have Ht := hid ht'
          clear hs ht'
          have hrr := hr.below BX.out
          have hwr := (hww.below BX.out)
          go_wp2_with fail
          go_region_held3 (fun w' => Below wr.heap.size wr w' ∧ w'.cell? ⟨w.heap.size, 0, none⟩ = some (.slice A m.length cap)) (exact held_one cr (by first | exact below_dr wr 1 | assumption)) (first
            | (go_at_call 27; go_must (refine (Run_as _ _ m p s (ul.take k) _ (hrr.below (by first | exact below_dr wr 1 | exact Below.refl _ _)) ((hwr.take Hkl.out _).below (by first | exact below_dr wr 1 | exact Below.refl _ _)) hv hp Hwk.out Hs).mono ?_; rintro e y1 ⟨rfl, hy1⟩; have k1 : Below wr.heap.size wr y1 := btr (by first | exact below_dr wr 1 | exact Below.refl _ _) hy1)))
          have cr1 := (k1.cell (p := ⟨w.heap.size, 0, none⟩) (World.block_lt_of_cell? _ _ cr)).trans cr
          have hB1 := btr hB k1
          have BX1 := hid (btr BX.out k1)
          clear hy1
          have hrr1 := hr.below BX1.out
          have hwr1 := (hww.below BX1.out)
          go_wp2_with fail
          go_region_held3 (fun w' => Below y1.heap.size y1 w' ∧ w'.cell? ⟨w.heap.size, 0, none⟩ = some (.slice A m.length cap)) (exact held_one cr1 (by first | exact below_dr y1 1 | assumption)) (first
            | (go_at_call 27; go_must (refine (Run_as _ _ m q t' (ul.take k) _ (hrr1.below (by first | exact below_dr y1 1 | exact Below.refl _ _)) ((hwr1.take Hkl.out _).below (by first | exact below_dr y1 1 | exact Below.refl _ _)) hv hq Hwk.out Ht).mono ?_; rintro e y2 ⟨rfl, hy2⟩; have k2 : Below y1.heap.size y1 y2 := btr (by first | exact below_dr y1 1 | exact Below.refl _ _) hy2)))
          have hB2 := btr hB1 k2
          have BX2 := hid (btr BX1.out k2)
          clear hy2
          by_cases hst : s = t'
          · have hm := merged_ok hv hp hq hres.out Hwu.out Hkl.out (Hs.out.trans (hst.trans Ht.out.symm))
            have e1 : ((s : Int) == (t' : Int)) = true := by simp; omega
            have e2 : decide ((k : Int) < (u.length : Int)) = false := by simp; omega
            have e2n : u.length ≤ k := hm.2.1
            by_cases hku : k = u.length
            · have e3 : ((k : Int) == (u.length : Int)) = true := by simp; omega
              have Hb := hid (hm.2.2 hku)
              have Hlen : Hid ((ul.take k).length = u.length) := hid (by rw [List.length_take, Nat.min_eq_left Hkl.out]; exact hku)
              have hU2 := HU.out.below hB2
              have hwr2 := (hww.below BX2.out)
              clear hku hm hst
              go_wp2_with fail
              refine (rBefore_any _ _ (ul.take k) u _ (hwr2.take Hkl.out _) hU2 Hlen.out).mono ?_
              rintro e y3 ⟨rfl, hy3⟩
              have hB3 := btr hB2 hy3
              have hb := Hb.out
              go_wp2_with fail
              go_roundw
              case rel => exact ⟨k + 1, by omega, by go_num, hB3⟩
              case measure => simp [intOf]; omega
            · have e3 : ((k : Int) == (u.length : Int)) = false := by simp; omega
              clear hku hm hst
              go_wp2_with fail
              go_roundw
              case rel => exact ⟨k + 1, by omega, by go_num, hB2⟩
              case measure => simp [intOf]; omega
          · have e1 : ((s : Int) == (t' : Int)) = false := by simp; omega
            have Hst := hid hst
            clear hst
            go_wp2_with fail
            go_roundw
            case rel => exact ⟨k + 1, by omega, by go_num, hB2⟩
            case measure => simp [intOf]; omega
        · have d1 : decide ((k : Int) ≤ (ul.length : Int)) = true := by simp; omega
          have d2 : decide ((k : Int) ≤ 200) = false := by simp; omega
          go_wp2_with fail
          refine (awake3_any _ (hTX.on BX.out)).mono ?_
          rintro e w9 ⟨rfl, h9⟩
          go_wp2
          go_ret
          exact ⟨rfl, btr hX (btr BX.out h9)⟩
      · have d1 : decide ((k : Int) ≤ (ul.length : Int)) = false := by simp; omega
        go_wp2_with fail
        refine (awake3_any _ (hTX.on BX.out)).mono ?_
        rintro e w9 ⟨rfl, h9⟩
        go_wp2
        go_ret
        exact ⟨rfl, btr hX (btr BX.out h9)⟩
  · generalize w5 = W0 at *
    go_wp2_with fail
    go_loopw [15] (fun kv wr => ∃ k : Nat, k ≤ ul.length + 1 ∧ kv = .int .i64 k ∧ Below W0.heap.size W0 wr) (fun kv _ => ul.length + 1 - (intOf kv).toNat)
    case atStart => exact ⟨0, by omega, rfl, Below.refl _ _⟩
    case round =>
      obtain ⟨k, hk, rfl, hB⟩ := hrel
      have BX := hid (btr HB5.out hB)
      by_cases hkl : k ≤ ul.length
      · by_cases hk2 : k ≤ 200
        · have d1 : decide ((k : Int) ≤ (ul.length : Int)) = true := by simp; omega
          have d2 : decide ((k : Int) ≤ 200) = true := by simp; omega
          have hkc : (k : Int) ≤ capu := by omega
          have hk0 : (0 : Int) ≤ k := by omega
          have cr := (hB.cell (p := ⟨w.heap.size, 0, none⟩) (World.block_lt_of_cell? _ _ c5)).trans c5
          have Hwk := hid (isWordM_take Hwu.out k)
          have Hkl := hid hkl
          obtain ⟨s, hs⟩ : ∃ s, runM m p (ul.take k) = s := ⟨_, rfl⟩
          obtain ⟨t', ht'⟩ : ∃ s, runM m q (ul.take k) = s := ⟨_, rfl⟩
          have Hs := hid hs
          have Ht := hid ht'
          clear hs ht'
          have hrr := hr.below BX.out
          have hwr := (hww.below BX.out)
          go_wp2_with fail
          go_region_held3 (fun w' => Below wr.heap.size wr w' ∧ w'.cell? ⟨w.heap.size, 0, none⟩ = some (.slice A m.length cap)) (exact held_one cr (by first | exact below_dr wr 1 | assumption)) (first
            | (go_at_call 27; go_must (refine (Run_as _ _ m p s (ul.take k) _ (hrr.below (by first | exact below_dr wr 1 | exact Below.refl _ _)) ((hwr.take Hkl.out _).below (by first | exact below_dr wr 1 | exact Below.refl _ _)) hv hp Hwk.out Hs).mono ?_; rintro e y1 ⟨rfl, hy1⟩; have k1 : Below wr.heap.size wr y1 := btr (by first | exact below_dr wr 1 | exact Below.refl _ _) hy1)))
          have cr1 := (k1.cell (p := ⟨w.heap.size, 0, none⟩) (World.block_lt_of_cell? _ _ cr)).trans cr
          have hB1 := btr hB k1
          have BX1 := hid (btr BX.out k1)
          clear hy1
          have hrr1 := hr.below BX1.out
          have hwr1 := (hww.below BX1.out)
          go_wp2_with fail
          go_region_held3 (fun w' => Below y1.heap.size y1 w' ∧ w'.cell? ⟨w.heap.size, 0, none⟩ = some (.slice A m.length cap)) (exact held_one cr1 (by first | exact below_dr y1 1 | assumption)) (first
            | (go_at_call 27; go_must (refine (Run_as _ _ m q t' (ul.take k) _ (hrr1.below (by first | exact below_dr y1 1 | exact Below.refl _ _)) ((hwr1.take Hkl.out _).below (by first | exact below_dr y1 1 | exact Below.refl _ _)) hv hq Hwk.out Ht).mono ?_; rintro e y2 ⟨rfl, hy2⟩; have k2 : Below y1.heap.size y1 y2 := btr (by first | exact below_dr y1 1 | exact Below.refl _ _) hy2)))
          have hB2 := btr hB1 k2
          have BX2 := hid (btr BX1.out k2)
          clear hy2
          by_cases hst : s = t'
          · have hm := merged_ok hv hp hq hres.out Hwu.out Hkl.out (Hs.out.trans (hst.trans Ht.out.symm))
            exact absurd hm.1 (by decide)
          · have e1 : ((s : Int) == (t' : Int)) = false := by simp; omega
            have Hst := hid hst
            clear hst
            go_wp2_with fail
            go_roundw
            case rel => exact ⟨k + 1, by omega, by go_num, hB2⟩
            case measure => simp [intOf]; omega
        · have d1 : decide ((k : Int) ≤ (ul.length : Int)) = true := by simp; omega
          have d2 : decide ((k : Int) ≤ 200) = false := by simp; omega
          go_wp2_with fail
          refine (awake3_any _ (hTX.on BX.out)).mono ?_
          rintro e w9 ⟨rfl, h9⟩
          go_wp2
          go_ret
          exact ⟨rfl, btr hX (btr BX.out h9)⟩
      · have d1 : decide ((k : Int) ≤ (ul.length : Int)) = false := by simp; omega
        go_wp2_with fail
        refine (awake3_any _ (hTX.on BX.out)).mono ?_
        rintro e w9 ⟨rfl, h9⟩
        go_wp2
        go_ret
        exact ⟨rfl, btr hX (btr BX.out h9)⟩
theorem resetMerged_any (v u1 : Value) (m : List (List Int)) (p q : Int) (ul : List Int) (w : World) (hT : Tab w) (h : Rows w v m) (hu1 : Ints w u1 ul) (hcap : ∀ A n c, u1 = .slice A n c → n ≤ c) :
    Calls Tryd.prog 7 #[.agg #[v], .int .i64 p, .int .i64 q, u1] w fun e w' => e = .returned (.bool true) ∧ Below w.heap.size w w' := by
  cases hbad : (validM m && (stateM m p && (stateM m q && isWordM m ul))) with
  | false => exact merged_form v u1 m p q ul w hT h hu1 hbad
  | true =>
    simp only [Bool.and_eq_true] at hbad
    obtain ⟨hv, hsp, hsq, hwu⟩ := hbad
    obtain ⟨pn, rfl, hp⟩ := state_nat hsp
    obtain ⟨qn, rfl, hq⟩ := state_nat hsq
    obtain ⟨c, u, hr⟩ := mergeRes_some hv hp hq
    exact merged_walk v u1 m pn qn ul c u w hT h hu1 hcap hv hp hq hwu (hid hr)
end Go.Proofs.YtmfbcnigefjgpaaDoor
