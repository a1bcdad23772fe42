/-
  Texts that the proof of the law stands on: Y13, Y14, Y17, Y41, MApp, Y42, Y43, E3, E13, Y15, E16, Y16, L4, Y30.
-/
import Derived.Test.YtiiiinoappjhdaaDoorSeB
import Derived.Maps.AppendAt
import Derived.Deep.AppendLies
import Derived.Deep.RegionHeld3
import Derived.Deep.LoopGhost
import Derived.Deep.CutRange
namespace Go.Proofs.YtiiiinoappjhdaaDoor
open Go.RowKit Go.Shelf
attribute [local go_sem] Oper.semAt_some
/-- The steps of the search over the images of all states; how many states a step's set has. -/
def imgF (m : List (List Int)) : Steps := bfsTo (imgS m) (letters m) (2 ^ m.length - 1) (2 ^ m.length)
def szB (F : Steps) (i : Nat) : Nat := (elems (plB F i).toNat).length
theorem imgF_good {m : List (List Int)} (hv : validM m = true) : GoodB (2 ^ m.length) (imgF m) :=
  GoodB.bfs (by have := Nat.two_pow_pos m.length; omega) (by have := (valid_parts hv).2.2.2.1; omega) (fun p x hp hx => imgS_lt hv hp hx) _
set_option maxRecDepth 100000 in
set_option maxHeartbeats 1000000 in
theorem Shortest_err (v : Value) (m : List (List Int)) (c : Int) (w : World) (h : Rows w v m) (hc : smallE m = c) (hc0 : c ≠ 0) :
    Calls Tryd.prog 11 #[.agg #[v]] w (NoWord w c) := by
  obtain ⟨A, cap, rfl, hml, -⟩ := id h
  have hX := bal (bal (bal (Below.refl _ w) (.cells #[.slice A m.length cap] 24)) (.cells #[.slice none 0 0] 25)) (.cells #[.int .i64 0] 26)
  have hne : (c != 0) = true := by simp [hc0]
  have q1 := ((Boxed.new w 24 (.slice A m.length cap)).alloc (.cells #[.slice none 0 0] 25)).alloc (.cells #[.int .i64 0] 26)
  have q2 := (Boxed.new (w.alloc (.cells #[.slice A m.length cap] 24)) 25 (.slice none 0 0)).alloc (.cells #[.int .i64 0] 26)
  have q3 := Boxed.new ((w.alloc (.cells #[.slice A m.length cap] 24)).alloc (.cells #[.slice none 0 0] 25)) 26 (.int .i64 0)
  simp only [World.size_alloc] at q2 q3
  go_enter Tryd.func11, Tryd.ntmps11
  go_wp2_with fail
  have hr := h.below hX
  generalize ((w.alloc (.cells #[.slice A m.length cap] 24)).alloc (.cells #[.slice none 0 0] 25)).alloc (.cells #[.int .i64 0] 26) = X at *
  refine (searched_any _ m _ c hr hc).mono ?_
  rintro e w1 ⟨rfl, h1⟩
  have b2 : Boxed w1 (w.heap.size + 1) 25 (.slice none 0 0) := (h1.block _ q2.lt).trans q2
  have b3 : Boxed w1 (w.heap.size + 1 + 1) 26 (.int .i64 0) := (h1.block _ q3.lt).trans q3
  have m2 := b2.cell; have m2f := b2.frozen; have m3 := b3.cell; have m3f := b3.frozen
  go_wp2_with fail
  have g2 := ((b2.set (.slice none 0 0)).other (B' := w.heap.size + 1 + 1) (by omega) (.int .i64 c)).cell
  have g3 := ((b3.other (B' := w.heap.size + 1) (by omega) (.slice none 0 0)).set (.int .i64 c)).cell
  have hB := ((btr hX h1).setCell (p := ⟨w.heap.size + 1, 0, none⟩) (by show w.heap.size ≤ w.heap.size + 1; omega) (.slice none 0 0)).setCell (p := ⟨w.heap.size + 1 + 1, 0, none⟩) (by show w.heap.size ≤ w.heap.size + 1 + 1; omega) (.int .i64 c)
  exact bodyPost_ret (v := .tuple #[.slice none 0 0, .int .i64 c]) (by simp [results, Tryd.results11, go_sem, g2, g3]) rfl ⟨rfl, hB⟩
/-- None of the first k sets has as few states. -/
def NoneS (F : Steps) (k : Nat) : Prop := ∀ j, j < k → szB F j ≠ 1
/-- What Shortest returns of an automaton whose sets may be searched. -/
def ShortIs (F : Steps) (w : World) (e : Ending) (w' : World) : Prop :=
  ((∃ i r, i < F.length ∧ szB F i = 1 ∧ NoneS F i ∧ e = .returned (.tuple #[r, .int .i64 0]) ∧ w'.ownsRow w.heap.size 3 1 r (wordB F i).length ((wordB F i).map fun x => .int .i64 x)) ∨
    (NoneS F F.length ∧ e = .returned (.tuple #[.slice none 0 0, .int .i64 4]))) ∧ Below w.heap.size w w'
set_option maxRecDepth 100000 in
set_option maxHeartbeats 4000000 in
theorem Shortest_ok (v : Value) (m : List (List Int)) (w : World) (hT : Tab w) (h : Rows w v m) (hv : validM m = true) (h12 : m.length ≤ 12) :
    Calls Tryd.prog 11 #[.agg #[v]] w (ShortIs (imgF m) w) := by
  obtain ⟨p1, p2, p3, p4, -⟩ := valid_parts hv
  obtain ⟨A, cap, rfl, hml, -⟩ := id h
  have hpow : 2 ^ m.length ≤ 2 ^ 12 := Nat.pow_le_pow_right (by decide) h12
  have hpos := Nat.two_pow_pos m.length
  have hc : smallE m = 0 := by unfold smallE; rw [if_pos hv, if_neg (by omega)]
  have hX := bal (bal (bal (Below.refl _ w) (.cells #[.slice A m.length cap] 24)) (.cells #[.slice none 0 0] 25)) (.cells #[.int .i64 0] 26)
  have q1 := ((Boxed.new w 24 (.slice A m.length cap)).alloc (.cells #[.slice none 0 0] 25)).alloc (.cells #[.int .i64 0] 26)
  have q2 := (Boxed.new (w.alloc (.cells #[.slice A m.length cap] 24)) 25 (.slice none 0 0)).alloc (.cells #[.int .i64 0] 26)
  have q3 := Boxed.new ((w.alloc (.cells #[.slice A m.length cap] 24)).alloc (.cells #[.slice none 0 0] 25)) 26 (.int .i64 0)
  simp only [World.size_alloc] at q2 q3
  have hXs : ((((w.alloc (.cells #[.slice A m.length cap] 24)).alloc (.cells #[.slice none 0 0] 25)).alloc (.cells #[.int .i64 0] 26))).heap.size = w.heap.size + 3 := by simp
  have hgood := imgF_good hv
  have hgl := hgood.len
  have hF0 := hid (show imgF m = bfsTo (imgS m) (letters m) (2 ^ m.length - 1) (2 ^ m.length) from rfl)
  refine (callsIn_wide (n := 0)).1 ?_
  refine callsIn_of_wp_marks Tryd.func11 rfl trivial ?_ rfl
  simp only [Tryd.ntmps11, List.size_toArray, List.length_cons, List.length_nil, Nat.reduceAdd, Nat.reduceSub, Array.replicate_succ, Array.replicate_zero, List.push_toArray, List.append_toArray, List.nil_append, List.cons_append]
  refine wpIn_wide.2 ?_
  go_wp2_with fail
  have hr := h.below hX
  have hTX := hT.on hX
  generalize ((w.alloc (.cells #[.slice A m.length cap] 24)).alloc (.cells #[.slice none 0 0] 25)).alloc (.cells #[.int .i64 0] 26) = X at *
  refine (searched_any _ m _ 0 hr hc).mono ?_
  rintro e w1 ⟨rfl, h1⟩
  have b1 : Boxed w1 w.heap.size 24 (.slice A m.length cap) := (h1.block _ q1.lt).trans q1
  have b2 : Boxed w1 (w.heap.size + 1) 25 (.slice none 0 0) := (h1.block _ q2.lt).trans q2
  have b3 : Boxed w1 (w.heap.size + 1 + 1) 26 (.int .i64 0) := (h1.block _ q3.lt).trans q3
  have c1 := b1.cell
  have hs1 := h1.size
  go_wp2_with fail
  refine (images_any A cap m _ (hr.below h1) hv).mono ?_
  rintro e T ⟨ab, p1', p2', p3', rfl, ca, ci1, ci2, ci3, la, l1, l2, l3, hTb⟩
  have d2 : Boxed T (w.heap.size + 1) 25 (.slice none 0 0) := (hTb.block _ b2.lt).trans b2
  have d3 : Boxed T (w.heap.size + 1 + 1) 26 (.int .i64 0) := (hTb.block _ b3.lt).trans b3
  have yT := btr hX (btr h1 hTb)
  have hrT := hr.below (btr h1 hTb)
  have hTT := hTX.on (btr h1 hTb)
  have HrT := hid hrT
  have HTT := hid hTT
  go_wp2_with fail
  have hXT : ∀ k, (k = p1' ∨ k = p2' ∨ k = p3' ∨ k = ab) → k < T.heap.size := fun k hk => by
    rcases hk with rfl | rfl | rfl | rfl
    · exact World.block_lt_of_cell? _ _ ci1
    · exact World.block_lt_of_cell? _ _ ci2
    · exact World.block_lt_of_cell? _ _ ci3
    · exact World.block_lt_of_cell? _ _ ca
  have hXl : ∀ k, (k = p1' ∨ k = p2' ∨ k = p3' ∨ k = ab) → w.heap.size + 3 ≤ k := fun k hk => by
    rcases hk with rfl | rfl | rfl | rfl <;> omega
  have hld : ∀ p x, p < 2 ^ m.length → x < letters m → imgS m p x < 2 ^ m.length := fun p x hp hx => imgS_lt hv hp hx
  have hRk : ∀ W W', (Below w.heap.size w W ∧ W.cell? ⟨ab, 0, none⟩ = some (.slice A m.length cap) ∧ Rows W (.slice A m.length cap) m ∧ Tab W) → Keep w.heap.size (fun k => k = p1' ∨ k = p2' ∨ k = p3' ∨ k = ab) W W' → (Below w.heap.size w W' ∧ W'.cell? ⟨ab, 0, none⟩ = some (.slice A m.length cap) ∧ Rows W' (.slice A m.length cap) m ∧ Tab W') := by
    rintro W W' ⟨a1, a2, _, _⟩ k
    have a5 := a1.trans (k.below a1.size)
    exact ⟨a5, keep_cell k (.inr (.inr (.inr rfl))) a2, h.below a5, hT.on a5⟩
  have hseq := Words_seqS (imgS m) (2 ^ m.length) (letters m) (2 ^ m.length - 1) ab _ _ _ w.heap.size (fun W => Below w.heap.size w W ∧ W.cell? ⟨ab, 0, none⟩ = some (.slice A m.length cap) ∧ Rows W (.slice A m.length cap) m ∧ Tab W) T (fun k => k = p1' ∨ k = p2' ∨ k = p3' ∨ k = ab) (by omega) (by omega) (by omega) hld (.inl rfl) (.inr (.inl rfl)) (.inr (.inr (.inl rfl))) hXT yT.size hRk ⟨yT, ca, hrT, hTT⟩
    (fun p x W ⟨_, a2, a3, a4⟩ hp hx => imgLead_any A cap m ab p x W a2 a3 a4 hv hp hx) ci1 ci2 ci3
  rw [← hF0.out] at hseq
  have hTs : w.heap.size + 3 ≤ T.heap.size := by have := hTb.size; omega
  have hpl : ∀ i, i < (imgF m).length → ∃ q : Nat, plB (imgF m) i = q ∧ q < 2 ^ m.length := hgood.below
  have Hpl := hid hpl
  generalize imgF m = F at *
  clear hF0 hRk hld ci1 ci2 ci3 ca hrT hTT b1 b2 b3 c1 h1 hr hTX hX q1 q2 q3 hpl hTb hXs hs1 HrT HTT la
  refine (wpIn_wide (n := 0)).1 ?_
  refine range_lawO (gf := 70) (fb := #[]) (lb := #[.pointer (some ⟨p1', 0, none⟩), .pointer (some ⟨p2', 0, none⟩), .pointer (some ⟨p3', 0, none⟩)]) rfl (enters_of Tryd.func70 (by kernel_rfl) rfl)
    hseq hXT (fun _ _ _ _ h k => h.keep k) yT.size (Below.refl _ _) (fun _ => rfl)
    (fun X pre W => NoneS F pre.length ∧ (Mine X W (w.heap.size + 1) 25 (.slice none 0 0) ∧ (Mine X W (w.heap.size + 1 + 1) 26 (.int .i64 0) ∧ Base w.heap.size w X W)))
    (fun c X pre W => (c = .ret ∧ 0 < pre.length ∧ pre.length ≤ F.length ∧ szB F (pre.length - 1) = 1 ∧ NoneS F (pre.length - 1)) ∧ (MineRow w.heap.size X W (w.heap.size + 1) 25 3 ((wordB F (pre.length - 1)).map fun x => .int .i64 x) ∧ (Mine X W (w.heap.size + 1 + 1) 26 (.int .i64 0) ∧ Base w.heap.size w X W)))
    (Stable.and (stable_pure _ (fun pre : List (Nat × Value) => NoneS F pre.length)) (Stable.and (stable_box _ _ _ (fun _ => _)) (Stable.and (stable_box _ _ _ (fun _ => _)) (stable_base _ _ _ yT.size (Nat.le_refl _)))))
    (fun c => Stable.and (stable_pure _ (fun pre : List (Nat × Value) => c = .ret ∧ 0 < pre.length ∧ pre.length ≤ F.length ∧ szB F (pre.length - 1) = 1 ∧ NoneS F (pre.length - 1))) (Stable.and (stable_row _ _ _ _ _ (fun pre : List (Nat × Value) => (wordB F (pre.length - 1)).map fun x => .int .i64 x)) (Stable.and (stable_box _ _ _ (fun _ => _)) (stable_base _ _ _ yT.size (Nat.le_refl _)))))
    ⟨fun j hj => absurd hj (Nat.not_lt_zero j), ⟨d2, fun h => by have := hXl _ h; omega⟩, ⟨d3, fun h => by have := hXl _ h; omega⟩, ⟨fun k hk => by have := hXl _ hk; omega, yT⟩⟩
    (fun x a' _ => a' = { tmps := #[.agg #[.slice A m.length cap], .pointer (some ⟨w.heap.size, 0, none⟩), .pointer (some ⟨w.heap.size + 1, 0, none⟩), .pointer (some ⟨w.heap.size + 1 + 1, 0, none⟩), .int .i64 0, .int .u64 (plB F x.1), x.2, .agg #[.slice A m.length cap], .int .i64 0, .int .i64 0, .bool false, undef, .agg #[.slice A m.length cap], .func (.func 70) #[] #[.pointer (some ⟨p1', 0, none⟩), .pointer (some ⟨p2', 0, none⟩), .pointer (some ⟨p3', 0, none⟩)], .int .u64 (plB F x.1), x.2, undef, undef, undef, undef, undef], defers := [] })
    (fun _ _ _ _ _ _ _ hs _ _ _ _ _ _ => hs) ?assign ?body ?done ?stop
  case assign =>
    intro l X pre x W' K' hi hK'
    unfold encWS
    gi_wp2
    exact hK' _ _ (KeepsFrom.refl _ _) (Keep.refl _ _ _) hi rfl
  case body =>
    rintro l X pre ⟨i, fv⟩ a' W hl hrec hXl' hXs ⟨hnone, b8, b9, hB⟩ hG rfl hsp
    obtain ⟨k, hk, hkr⟩ := hsp
    obtain ⟨hk1, hix⟩ := sp_last hkr
    simp only at hix
    subst hix
    obtain ⟨c6, c7, g, cap', B', base, hfv, _⟩ := id hG
    simp only at hfv
    subst hfv
    have hword := word_anyS F X _ c6 c7 W hG
    obtain ⟨q, hq, hqn⟩ := Hpl.out pre.length (by omega)
    have hsz : szB F pre.length = (elems q).length := by unfold szB; rw [hq, Int.toNat_natCast]
    have hF := Size_any q W (by omega)
    have m8 := b8.cell; have m8f := b8.frozen; have m9 := b9.cell; have m9f := b9.frozen
    rw [hq]
    by_cases hf : szB F pre.length = 1
    · have hlt9 := b9.lt
      have hWb : w.heap.size ≤ W.heap.size := hB.2.size
      rw [← hsz, hf] at hF
      have hf0 := hid hf
      gi_wp2_with fail
      refine ⟨trivial, rfl, (inr l _ hF).mono ?_⟩
      rintro e w' ⟨rfl, rfl⟩
      gi_wp2_with fail
      refine ⟨trivial, rfl, (inr l _ hword).mono ?_⟩
      rintro e w3 ⟨r, rfl, hr, hb3⟩
      have d8 := b8.below hb3
      have d9 := b9.below hb3
      have e8 := d8.cell; have e8f := d8.frozen; have e9 := d9.cell; have e9f := d9.frozen
      have hrb : ∀ g, r.ownBlock = some g → W.heap.size ≤ g ∧ g < w3.heap.size := row_blk2 hr
      obtain ⟨rA, rn, rc, rfl⟩ : ∃ A k c, r = .slice A k c := by
        rcases hr.2 with ⟨hu, h0⟩ | ⟨g, cap, cur, hu, hg, hh, _⟩
        · exact ⟨none, 0, 0, hu⟩
        · exact ⟨_, _, cap, hu⟩
      have Hr := hid (row_mono hr hWb)
      clear hr hword
      gi_wp2
      have hpl : (pre ++ [((pre.length : Nat), Value.func (.func 71) #[] #[.pointer (some ⟨c6, 0, none⟩), .pointer (some ⟨c7, 0, none⟩)])]).length = pre.length + 1 := by simp
      refine ⟨((kf_below hb3).trans (kf_set _ _ _ _)).trans (kf_set _ _ _ _), ((Keep.of_below hb3).trans (keep_set _ _ _ (by omega) b8.2)).trans (keep_set _ _ _ (by omega) b9.2), ⟨rfl, by omega, by omega, by rw [hpl]; exact hf0.out, by rw [hpl]; exact hnone⟩, ⟨_, (d8.set _).other (by omega) _, ?_, fun j hj hXj => ?_⟩, (d9.other (by omega) _).set _, hB.step ?_⟩
      · rw [hpl, List.length_map]
        refine ownsRow_same Hr.out fun g hg => ?_
        have := hrb g hg
        rw [Below.heap_setCell _ _ _ _ (by simp; omega), Below.heap_setCell _ _ _ _ (by simp; omega)]
      · have h1 := hrb j hj
        have h2 := hXs j hXj
        omega
      · exact (((hb3.mono hWb)).setCell (p := ⟨w.heap.size + 1, 0, none⟩) (by show w.heap.size ≤ w.heap.size + 1; omega) _).setCell (p := ⟨w.heap.size + 1 + 1, 0, none⟩) (by show w.heap.size ≤ w.heap.size + 1 + 1; omega) _
    · have hfi : (((elems q).length : Int) == 1) = false := beq_eq_false_iff_ne.2 (by omega)
      have hfn : ((elems q).length == 1) = false := beq_eq_false_iff_ne.2 (by omega)
      have Hf := hid hf
      clear hsz hf
      gi_wp2_with fail
      refine ⟨trivial, rfl, (inr l _ hF).mono ?_⟩
      rintro e w' ⟨rfl, rfl⟩
      gi_wp2
      refine ⟨KeepsFrom.refl _ _, Keep.refl _ _ _, fun j hj => ?_, b8, b9, hB⟩
      by_cases e : j < pre.length
      · exact hnone j e
      · obtain rfl : j = pre.length := by simp at hj; omega
        exact Hf.out
  case done =>
    rintro D X xs W hD hS ⟨hnone, b8, b9, hB⟩ hK'
    have m8 := b8.cell; have m8f := b8.frozen; have m9 := b9.cell; have m9f := b9.frozen
    have hlen : xs.length = F.length := by have := congrArg List.length hS; simpa using this
    have hTsz := yT.size
    have hDw := (Array.getElem?_eq_some_iff.1 hK').1
    gi_wp2
    go_wp2
    have f1 : (W.setCell ⟨w.heap.size + 1, 0, none⟩ (.slice none 0 0)).heap[D]? = W.heap[D]? := Below.heap_setCell _ _ _ _ (by simp; omega)
    have f2 : ((W.setCell ⟨w.heap.size + 1, 0, none⟩ (.slice none 0 0)).setCell ⟨w.heap.size + 1 + 1, 0, none⟩ (.int .i64 4)).heap[D]? = some (.deferred (some [])) := (Below.heap_setCell _ _ _ _ (by simp; omega)).trans (f1.trans hK')
    have g8 := ((b8.set (.slice none 0 0)).other (b' := w.heap.size + 1 + 1) (by omega) (.int .i64 4)).1
    have g9 := ((b9.other (b' := w.heap.size + 1) (by omega) (.slice none 0 0)).set (.int .i64 4)).1
    have hBW := (hB.2.setCell (p := ⟨w.heap.size + 1, 0, none⟩) (by show w.heap.size ≤ w.heap.size + 1; omega) (.slice none 0 0)).setCell (p := ⟨w.heap.size + 1 + 1, 0, none⟩) (by show w.heap.size ≤ w.heap.size + 1 + 1; omega) (.int .i64 4)
    generalize (W.setCell ⟨w.heap.size + 1, 0, none⟩ (.slice none 0 0)).setCell ⟨w.heap.size + 1 + 1, 0, none⟩ (.int .i64 4) = W9 at *
    refine ⟨by simp, .inl ⟨_, _, rfl, run_takeDeferred f2, ?_⟩⟩
    have k8 := (put_boxed g8 f2).cell
    have k9 := (put_boxed g9 f2).cell
    refine ⟨.tuple #[.slice none 0 0, .int .i64 4], ?_, ⟨.inr ⟨fun j hj => hnone j (by omega), rfl⟩, hBW.trans (belowK_b (w := w) (Nat.le_refl _) _ D _ _ (by omega) f2 rfl rfl)⟩⟩
    · simp only [results, Tryd.results11]
      go_simp
  case stop =>
    rintro D X c pre W hD hSp ⟨⟨rfl, hpos, hle, hfd, hno⟩, ⟨v, hm, ho, hx⟩, b9, hB⟩ hK'
    have hTsz := yT.size
    gi_wp2
    refine ⟨by simp, .inl ⟨_, _, rfl, run_takeDeferred hK', ?_⟩⟩
    obtain ⟨rA, rn, rc, rfl⟩ : ∃ A k c, v = .slice A k c := by
      rcases ho.2 with ⟨hu, h0⟩ | ⟨g, cap, cur, hu, hg, hh, _⟩
      · exact ⟨none, 0, 0, hu⟩
      · exact ⟨_, _, cap, hu⟩
    have k8 := (put_boxed hm.1 hK').cell
    have k9 := (put_boxed b9.1 hK').cell
    have hr := ownsRow_putObj ho (.deferred none) hK' rfl
    rw [List.length_map] at hr
    refine ⟨.tuple #[.slice rA rn rc, .int .i64 0], ?_, ⟨.inl ⟨pre.length - 1, _, by omega, hfd, hno, rfl, hr⟩, hB.2.trans (belowK_b (w := w) (Nat.le_refl _) _ D _ _ (by omega) hK' rfl rfl)⟩⟩
    · simp only [results, Tryd.results11]
      go_simp
end Go.Proofs.YtiiiinoappjhdaaDoor
namespace Go.Proofs.YtiiiinoappjhdaaDoor
open Go.RowKit Go.Shelf
attribute [local go_sem] Oper.semAt_some
set_option maxRecDepth 100000 in
set_option maxHeartbeats 1000000 in
theorem Rank_err (v : Value) (m : List (List Int)) (c : Int) (w : World) (h : Rows w v m) (hc : smallE m = c) (hc0 : c ≠ 0) :
    Calls Tryd.prog 17 #[.agg #[v]] w fun e w' => e = .returned (.tuple #[.int .i64 0, .slice none 0 0, .int .i64 c]) ∧ Below w.heap.size w w' := by
  obtain ⟨A, cap, rfl, hml, -⟩ := id h
  have hX := bal (Below.refl _ w) (.cells #[.slice A m.length cap] 24)
  have hne : (c != 0) = true := by simp [hc0]
  go_enter Tryd.func17, Tryd.ntmps17
  go_wp2_with fail
  have hr := h.below hX
  generalize w.alloc (.cells #[.slice A m.length cap] 24) = X at *
  refine (searched_any _ m _ c hr hc).mono ?_
  rintro e w1 ⟨rfl, h1⟩
  go_wp2_with fail
  exact bodyPost_ret (v := .tuple #[.int .i64 0, .slice none 0 0, .int .i64 c]) (by simp [results, Tryd.results17, go_sem]) rfl ⟨rfl, btr hX h1⟩
/-- The least size among the first k sets, and the word of the first set that has it. -/
def rkS (F : Steps) (n : Nat) : Nat → Nat × List Int
  | 0 => (n, [])
  | k + 1 => if szB F k < (rkS F n k).1 then (szB F k, wordB F k) else rkS F n k
/-- What Rank returns of an automaton whose sets may be searched. -/
def RankIs (F : Steps) (n : Nat) (w : World) (e : Ending) (w' : World) : Prop :=
  ∃ r, e = .returned (.tuple #[.int .i64 ((rkS F n F.length).1 : Nat), r, .int .i64 0]) ∧ w'.ownsRow w.heap.size 3 1 r (rkS F n F.length).2.length ((rkS F n F.length).2.map fun x => .int .i64 x) ∧ Below w.heap.size w w'
theorem kf_drewS (B : Nat) (W : World) (n : Nat) : KeepsFrom B W (W.drewN n) := kf_below (below_dr W n)
theorem ownsRow_slice' {w : World} {base : Nat} {e : TypeId} {s : Nat} {v : Value} {n : Nat} {xs : List Value} (h : w.ownsRow base e s v n xs) : ∃ A k c, v = .slice A k c := by
  rcases h.2 with ⟨hu, _⟩ | ⟨g, cap, cur, hv, _⟩
  · exact ⟨none, 0, 0, hu⟩
  · exact ⟨_, _, cap, hv⟩
theorem World.ownsRow.drewN' {w : World} {base : Nat} {e : TypeId} {s : Nat} {v : Value} {n : Nat} {xs : List Value} (h : w.ownsRow base e s v n xs) (k : Nat) : (w.drewN k).ownsRow base e s v n xs := ownsRow_same h (fun _ _ => rfl)
set_option maxRecDepth 100000 in
set_option maxHeartbeats 4000000 in
theorem Rank_ok (v : Value) (m : List (List Int)) (w : World) (hT : Tab w) (h : Rows w v m) (hv : validM m = true) (h12 : m.length ≤ 12) :
    Calls Tryd.prog 17 #[.agg #[v]] w (RankIs (imgF m) m.length w) := by
  obtain ⟨p1, p2, p3, p4, -⟩ := valid_parts hv
  obtain ⟨A, cap, rfl, hml, -⟩ := id h
  have hpow : 2 ^ m.length ≤ 2 ^ 12 := Nat.pow_le_pow_right (by decide) h12
  have hpos := Nat.two_pow_pos m.length
  have hc : smallE m = 0 := by unfold smallE; rw [if_pos hv, if_neg (by omega)]
  have hX := bal (Below.refl _ w) (.cells #[.slice A m.length cap] 24)
  have q1 := Boxed.new w 24 (.slice A m.length cap)
  have hXs : (w.alloc (.cells #[.slice A m.length cap] 24)).heap.size = w.heap.size + 1 := by simp
  have hgood := imgF_good hv
  have hgl := hgood.len
  have hF0 := hid (show imgF m = bfsTo (imgS m) (letters m) (2 ^ m.length - 1) (2 ^ m.length) from rfl)
  refine (callsIn_wide (n := 0)).1 ?_
  refine callsIn_of_wp_marks Tryd.func17 rfl trivial ?_ rfl
  simp only [Tryd.ntmps17, List.size_toArray, List.length_cons, List.length_nil, Nat.reduceAdd, Nat.reduceSub, Array.replicate_succ, Array.replicate_zero, List.push_toArray, List.append_toArray, List.nil_append, List.cons_append]
  refine wpIn_wide.2 ?_
  go_wp2_with fail
  have hr := h.below hX
  have hTX := hT.on hX
  generalize w.alloc (.cells #[.slice A m.length cap] 24) = X at *
  refine (searched_any _ m _ 0 hr hc).mono ?_
  rintro e w1 ⟨rfl, h1⟩
  have b1 : Boxed w1 w.heap.size 24 (.slice A m.length cap) := (h1.block _ q1.lt).trans q1
  have c1 := b1.cell
  have hs1 := h1.size
  have q2 := (Boxed.new w1 3 (.int .i64 (m.length : Nat))).alloc (.cells #[.slice none 0 0] 25)
  have q3 := Boxed.new (w1.alloc (.cells #[.int .i64 (m.length : Nat)] 3)) 25 (.slice none 0 0)
  simp only [World.size_alloc] at q3
  have hY := bal (bal (Below.refl _ w1) (.cells #[.int .i64 (m.length : Nat)] 3)) (.cells #[.slice none 0 0] 25)
  have c2 := (hY.cell (p := ⟨w.heap.size, 0, none⟩) (World.block_lt_of_cell? _ _ c1)).trans c1
  have hrY := (hr.below h1).below hY
  have hyw := btr hX (btr h1 hY)
  have hTY := hTX.on (btr h1 hY)
  go_wp2_with fail
  generalize hYY : (w1.alloc (.cells #[.int .i64 (m.length : Nat)] 3)).alloc (.cells #[.slice none 0 0] 25) = Y at *
  have hYs : w1.heap.size + 2 ≤ Y.heap.size := by rw [← hYY]; simp
  clear hYY
  refine (images_any A cap m _ hrY hv).mono ?_
  rintro e T ⟨ab, p1', p2', p3', rfl, ca, ci1, ci2, ci3, la, l1, l2, l3, hTb⟩
  have d2 : Boxed T w1.heap.size 3 (.int .i64 (m.length : Nat)) := (hTb.block _ q2.lt).trans q2
  have d3 : Boxed T (w1.heap.size + 1) 25 (.slice none 0 0) := (hTb.block _ q3.lt).trans q3
  have yT := btr hyw hTb
  have hrT := hrY.below hTb
  have hTT := hTY.on hTb
  go_wp2_with fail
  have hXT : ∀ k, (k = p1' ∨ k = p2' ∨ k = p3' ∨ k = ab) → k < T.heap.size := fun k hk => by
    rcases hk with rfl | rfl | rfl | rfl
    · exact World.block_lt_of_cell? _ _ ci1
    · exact World.block_lt_of_cell? _ _ ci2
    · exact World.block_lt_of_cell? _ _ ci3
    · exact World.block_lt_of_cell? _ _ ca
  have hXl : ∀ k, (k = p1' ∨ k = p2' ∨ k = p3' ∨ k = ab) → w1.heap.size + 2 ≤ k := fun k hk => by
    rcases hk with rfl | rfl | rfl | rfl <;> omega
  have hww : w.heap.size + 1 ≤ w1.heap.size := by omega
  have hld : ∀ p x, p < 2 ^ m.length → x < letters m → imgS m p x < 2 ^ m.length := fun p x hp hx => imgS_lt hv hp hx
  have hRk : ∀ W W', (Below w.heap.size w W ∧ W.cell? ⟨ab, 0, none⟩ = some (.slice A m.length cap) ∧ Rows W (.slice A m.length cap) m ∧ Tab W) → Keep w.heap.size (fun k => k = p1' ∨ k = p2' ∨ k = p3' ∨ k = ab) W W' → (Below w.heap.size w W' ∧ W'.cell? ⟨ab, 0, none⟩ = some (.slice A m.length cap) ∧ Rows W' (.slice A m.length cap) m ∧ Tab W') := by
    rintro W W' ⟨a1, a2, _, _⟩ k
    have a5 := a1.trans (k.below a1.size)
    exact ⟨a5, keep_cell k (.inr (.inr (.inr rfl))) a2, h.below a5, hT.on a5⟩
  have hseq := Words_seqS (imgS m) (2 ^ m.length) (letters m) (2 ^ m.length - 1) ab _ _ _ w.heap.size (fun W => Below w.heap.size w W ∧ W.cell? ⟨ab, 0, none⟩ = some (.slice A m.length cap) ∧ Rows W (.slice A m.length cap) m ∧ Tab W) T (fun k => k = p1' ∨ k = p2' ∨ k = p3' ∨ k = ab) (by omega) (by omega) (by omega) hld (.inl rfl) (.inr (.inl rfl)) (.inr (.inr (.inl rfl))) hXT yT.size hRk ⟨yT, ca, hrT, hTT⟩
    (fun p x W ⟨_, a2, a3, a4⟩ hp hx => imgLead_any A cap m ab p x W a2 a3 a4 hv hp hx) ci1 ci2 ci3
  rw [← hF0.out] at hseq
  have hTs : w1.heap.size + 2 ≤ T.heap.size := by have := hTb.size; omega
  have hpl : ∀ i, i < (imgF m).length → ∃ q : Nat, plB (imgF m) i = q ∧ q < 2 ^ m.length := hgood.below
  have Hpl := hid hpl
  have hsuc := hid (fun k => show rkS (imgF m) m.length (k + 1) = if szB (imgF m) k < (rkS (imgF m) m.length k).1 then (szB (imgF m) k, wordB (imgF m) k) else rkS (imgF m) m.length k from rfl)
  have hrk0 := hid (show rkS (imgF m) m.length 0 = (m.length, []) from rfl)
  generalize imgF m = F at *
  have e0 : (rkS F m.length ([] : List (Nat × Value)).length).1 = m.length := by show (rkS F m.length 0).1 = _; rw [hrk0.out]
  have e1 : ((rkS F m.length ([] : List (Nat × Value)).length).2.map fun x : Int => Value.int .i64 x) = [] := by show ((rkS F m.length 0).2.map fun x : Int => Value.int .i64 x) = _; rw [hrk0.out]; rfl
  clear hF0 hRk hld ci1 ci2 ci3 ca hrT hTT b1 c1 c2 hr hTX hX q1 q2 q3 hpl hTb hXs hs1 la hrY hTY hY hyw hYs h1 hgood
  refine (wpIn_wide (n := 0)).1 ?_
  refine range_lawO (gf := 70) (fb := #[]) (lb := #[.pointer (some ⟨p1', 0, none⟩), .pointer (some ⟨p2', 0, none⟩), .pointer (some ⟨p3', 0, none⟩)]) rfl (enters_of Tryd.func70 (by kernel_rfl) rfl)
    hseq hXT (fun _ _ _ _ h k => h.keep k) yT.size (Below.refl _ _) (fun _ => rfl)
    (fun X pre W => Mine X W w1.heap.size 3 (.int .i64 ((rkS F m.length pre.length).1 : Nat)) ∧ (MineRow w.heap.size X W (w1.heap.size + 1) 25 3 ((rkS F m.length pre.length).2.map fun x => .int .i64 x) ∧ Base w.heap.size w X W))
    (fun c X pre W => False)
    (Stable.and (stable_box _ _ _ (fun pre : List (Nat × Value) => .int .i64 ((rkS F m.length pre.length).1 : Nat))) (Stable.and (stable_row _ _ _ _ _ (fun pre : List (Nat × Value) => (rkS F m.length pre.length).2.map fun x => .int .i64 x)) (stable_base _ _ _ yT.size (Nat.le_refl _))))
    (fun c => stable_pure _ (fun _ : List (Nat × Value) => False))
    ⟨⟨by rw [e0]; exact d2, fun h => by have := hXl _ h; omega⟩, ⟨.slice none 0 0, ⟨d3, fun h => by have := hXl _ h; omega⟩, by rw [e1]; exact World.ownsRow_nil _ _ _ _, fun j hj => by cases hj⟩, ⟨fun k hk => by have := hXl _ hk; omega, yT⟩⟩
    (fun x a' _ => a' = { tmps := #[.agg #[.slice A m.length cap], .pointer (some ⟨w.heap.size, 0, none⟩), .int .i64 0, .slice none 0 0, .int .i64 0, .int .i64 0, .pointer (some ⟨w1.heap.size, 0, none⟩), .pointer (some ⟨w1.heap.size + 1, 0, none⟩), .int .u64 (plB F x.1), x.2, .agg #[.slice A m.length cap], .int .i64 0, .int .i64 0, .bool false, undef, .pointer (some ⟨w.heap.size, 0, none⟩), .slice A m.length cap, .int .i64 (m.length : Nat), .agg #[.slice A m.length cap], .func (.func 70) #[] #[.pointer (some ⟨p1', 0, none⟩), .pointer (some ⟨p2', 0, none⟩), .pointer (some ⟨p3', 0, none⟩)], .int .u64 (plB F x.1), x.2, undef, undef, undef, undef, undef, undef, undef, undef, undef, undef], defers := [] })
    (fun _ _ _ _ _ _ _ hs _ _ _ _ _ _ => hs) ?assign ?body ?done ?stop
  case assign =>
    intro l X pre x W' K' hi hK'
    unfold encWS
    gi_wp2
    exact hK' _ _ (KeepsFrom.refl _ _) (Keep.refl _ _ _) hi rfl
  case body =>
    rintro l X pre ⟨i, fv⟩ a' W hl hrec hXl' hXs ⟨b8, ⟨v0, b9, ho9, hx9⟩, hB⟩ hG rfl hsp
    obtain ⟨k, hk, hkr⟩ := hsp
    obtain ⟨hk1, hix⟩ := sp_last hkr
    simp only at hix
    subst hix
    obtain ⟨c6, c7, g, cap', B', base, hfv, _⟩ := id hG
    simp only at hfv
    subst hfv
    obtain ⟨q, hq, hqn⟩ := Hpl.out pre.length (by omega)
    have hsz : szB F pre.length = (elems q).length := by unfold szB; rw [hq, Int.toNat_natCast]
    have hF := fun W => Size_any q W (by omega)
    rw [← hsz] at hF
    have hpl : (pre ++ [((pre.length : Nat), Value.func (.func 71) #[] #[.pointer (some ⟨c6, 0, none⟩), .pointer (some ⟨c7, 0, none⟩)])]).length = pre.length + 1 := by simp
    have hsn := hsuc.out pre.length
    have m8 := b8.cell
    have HG := hid hG
    have Ho9 := hid ho9
    have hrle : (rkS F m.length pre.length).1 = (rkS F m.length pre.length).1 := rfl
    obtain ⟨R, hR⟩ : ∃ R, rkS F m.length pre.length = R := ⟨_, rfl⟩
    obtain ⟨r, V⟩ := R
    rw [hR] at m8 hsn
    rw [hq]
    clear hsz hq hG ho9 hrle
    have HR := hid hR
    have Hsn := hid hsn
    clear hR hsn
    by_cases hf : szB F pre.length < r
    · have e2 : rkS F m.length (pre.length + 1) = (szB F pre.length, wordB F pre.length) := by rw [Hsn.out, if_pos hf]
      have E2 := hid e2
      have hd1 : decide ((szB F pre.length : Int) < (r : Int)) = true := by simp; omega
      have hd2 : decide (szB F pre.length < r) = true := decide_eq_true hf
      have hWb : w.heap.size ≤ W.heap.size := hB.2.size
      have hlt9 := b9.lt
      clear e2 hf
      generalize szB F pre.length = sz at *
      gi_wp2_with fail
      refine wp_region_round l (by kernel_rfl) (by kernel_rfl) (by kernel_rfl) ?_
      repeat (go_big_quiet_step ((go_at_call 36; exact Calls.quiet_of_same ((hF _).mono fun _ _ ⟨h1, h2⟩ => ⟨h1, h2.symm⟩))))
      refine wpQuiet_nil ?_
      intro nq
      have hdr := below_dr W nq
      have t8 := b8.below hdr
      have t9 := b9.below hdr
      have hword := word_anyS F X _ c6 c7 _ (HG.out.keep (Keep.of_below (n₀ := 0) hdr))
      have hkd := hid (kf_drewS T.heap.size W nq)
      have hsd : (W.drewN nq).heap.size = W.heap.size := rfl
      generalize hWd : W.drewN nq = Wd at *
      clear hWd
      gi_wp2_with fail
      refine ⟨trivial, rfl, (inr l _ (hF _)).mono ?_⟩
      rintro e w' ⟨rfl, rfl⟩
      gi_wp2_with fail
      refine ⟨trivial, rfl, (inr l _ hword).mono ?_⟩
      rintro e w3 ⟨rr, rfl, hr, hb3⟩
      have d8 := t8.below hb3
      have d9 := t9.below hb3
      have e8 := d8.cell; have e8f := d8.frozen; have e9 := d9.cell; have e9f := d9.frozen
      have hrb : ∀ g, rr.ownBlock = some g → Wd.heap.size ≤ g ∧ g < w3.heap.size := row_blk2 hr
      obtain ⟨rA, rn, rc, rfl⟩ := ownsRow_slice' hr
      have Hr := hid (row_mono hr (by omega : w.heap.size ≤ Wd.heap.size))
      clear hr hword
      gi_wp2
      refine ⟨((hkd.out.trans (kf_below hb3)).trans (kf_set _ _ _ _)).trans (kf_set _ _ _ _), (((Keep.of_below hdr).trans (Keep.of_below hb3)).trans (keep_set _ _ _ (by omega) b8.2)).trans (keep_set _ _ _ (by omega) b9.2), ?_, ⟨_, (d9.other (by omega) _).set _, ?_, fun j hj hXj => ?_⟩, (hB.step (hdr.mono hWb)).step ?_⟩
      · rw [hpl, E2.out]; exact (d8.set _).other (by omega) _
      · rw [hpl, E2.out, List.length_map]
        refine ownsRow_same Hr.out fun g hg => ?_
        have := hrb g hg
        rw [Below.heap_setCell _ _ _ _ (by simp; omega), Below.heap_setCell _ _ _ _ (by simp; omega)]
      · have h1 := hrb j hj
        have h2 := hXs j hXj
        omega
      · exact (((hb3.mono (by omega : w.heap.size ≤ Wd.heap.size))).setCell (p := ⟨w1.heap.size, 0, none⟩) (by show w.heap.size ≤ w1.heap.size; omega) _).setCell (p := ⟨w1.heap.size + 1, 0, none⟩) (by show w.heap.size ≤ w1.heap.size + 1; omega) _
    · have e2 : rkS F m.length (pre.length + 1) = (r, V) := by rw [Hsn.out, if_neg hf]
      have E2 := hid e2
      have hd1 : decide ((szB F pre.length : Int) < (r : Int)) = false := by simp; omega
      have hd2 : decide (szB F pre.length < r) = false := decide_eq_false hf
      have hWb : w.heap.size ≤ W.heap.size := hB.2.size
      clear e2 hf
      generalize szB F pre.length = sz at *
      gi_wp2_with fail
      refine wp_region_round l (by kernel_rfl) (by kernel_rfl) (by kernel_rfl) ?_
      repeat (go_big_quiet_step ((go_at_call 36; exact Calls.quiet_of_same ((hF _).mono fun _ _ ⟨h1, h2⟩ => ⟨h1, h2.symm⟩))))
      refine wpQuiet_nil ?_
      intro nq
      gi_wp2
      refine ⟨kf_drewS _ _ _, Keep.of_below (below_dr W nq), ?_, ⟨v0, b9.below (below_dr W nq), ?_, hx9⟩, hB.step ((below_dr W nq).mono hWb)⟩
      · rw [hpl, E2.out]; have := b8.below (below_dr W nq); rw [HR.out] at this; exact this
      · rw [hpl, E2.out]; have := Ho9.out; rw [HR.out] at this; exact this
  case done =>
    rintro D X xs W hD hS ⟨b8, ⟨v0, b9, ho9, hx9⟩, hB⟩ hK'
    have hlen : xs.length = F.length := by have := congrArg List.length hS; simpa using this
    rw [hlen] at b8 ho9
    have m8 := b8.cell; have m9 := b9.cell
    have hTsz := yT.size
    obtain ⟨rA, rn, rc, rfl⟩ := ownsRow_slice' ho9
    gi_wp2_with fail
    go_wp2_with fail
    go_quiet (fail)
    have f2 : (W.drewN nq).heap[D]? = some (.deferred (some [])) := hK'
    have hBW := hB.2.trans ((below_dr W nq).mono hB.2.size)
    have hr := ownsRow_putObj (World.ownsRow.drewN' ho9 nq) (.deferred none) f2 rfl
    rw [List.length_map] at hr
    generalize W.drewN nq = W9 at *
    go_wp2
    refine ⟨by simp, .inl ⟨_, _, rfl, run_takeDeferred f2, ?_⟩⟩
    refine ⟨.tuple #[.int .i64 ((rkS F m.length F.length).1 : Nat), .slice rA rn rc, .int .i64 0], ?_, ⟨_, rfl, hr, hBW.trans (belowK_b (w := w) (Nat.le_refl _) _ D _ _ (by omega) f2 rfl rfl)⟩⟩
    · simp only [results, Tryd.results17]
      go_simp
  case stop =>
    rintro D X c pre W hD hSp hF
    exact hF.elim
end Go.Proofs.YtiiiinoappjhdaaDoor
namespace Go.Proofs.YtiiiinoappjhdaaDoor
open Go.RowKit Go.Shelf
theorem foldl_set (m : List (List Int)) : ∀ (u : List Int) (S : Nat), u.all (inB 0 ((letters m : Int) - 1)) = true → imgWord m S u = (u.map Int.toNat).foldl (imgS m) S
  | [], _, _ => rfl
  | x :: u, S, h => by
    rw [List.all_cons, Bool.and_eq_true] at h
    have h0 : 0 ≤ x := by
      have h1 := h.1
      unfold inB at h1
      simp at h1; omega
    have ih := foldl_set m u (imgSet m S x) h.2
    unfold imgWord at ih ⊢
    have e : imgS m S x.toNat = imgSet m S x := by unfold imgS imgSet; rw [Int.toNat_of_nonneg h0]
    rw [List.foldl_cons, List.map_cons, List.foldl_cons, ih, e]
section
variable {m : List (List Int)}
theorem full_lt (m : List (List Int)) : 2 ^ m.length - 1 < 2 ^ m.length := by have := Nat.two_pow_pos m.length; omega
/-- Where a word leads from all states the search comes by a word that is no longer, nor later. -/
theorem imgF_has (hv : validM m = true) {u : List Int} (hu : u.all (inB 0 ((letters m : Int) - 1)) = true) :
    ∃ j, j < (imgF m).length ∧ plB (imgF m) j = ((imgWord m (2 ^ m.length - 1) u : Nat) : Int) ∧ SLe (wordB (imgF m) j) u := by
  obtain ⟨-, -, -, p4, -⟩ := valid_parts hv
  obtain ⟨j, h1, h2, h3⟩ := word_least (full_lt m) (by omega : letters m ≤ 1000) (fun p x hp hx => imgS_lt hv hp hx) _ (u.map Int.toNat) rfl (nat_word hu)
  rw [← foldl_set m u _ hu] at h2
  have e : ((u.map Int.toNat).map fun x : Nat => (x : Int)) = u := by
    rw [List.map_map]
    refine (List.map_congr_left fun x hx => ?_).trans (List.map_id u)
    have h4 := List.all_eq_true.1 hu x hx
    unfold inB at h4
    simp at h4
    simp; omega
  rw [e] at h3
  exact ⟨j, h1, h2, h3⟩
theorem imgF_word (hv : validM m = true) {j : Nat} (hj : j < (imgF m).length) :
    (wordB (imgF m) j).all (inB 0 ((letters m : Int) - 1)) = true ∧ plB (imgF m) j = ((imgWord m (2 ^ m.length - 1) (wordB (imgF m) j) : Nat) : Int) := by
  obtain ⟨-, -, -, p4, -⟩ := valid_parts hv
  have hg := imgF_good hv
  have hw := word_letters hg.tree (LetB.bfs (imgS m) (letters m) (2 ^ m.length - 1) (2 ^ m.length)) j hj
  refine ⟨hw, ?_⟩
  have h := word_leads (full_lt m) (by omega : letters m ≤ 1000) (fun p x hp hx => imgS_lt hv hp hx) j hj
  rw [foldl_set m _ _ hw]
  exact h
theorem imgF_len (hv : validM m = true) (h12 : m.length ≤ 12) {j : Nat} (hj : j < (imgF m).length) : (wordB (imgF m) j).length ≤ 4096 := by
  have h1 := wordB_len (imgF_good hv).tree j hj
  have h2 := (imgF_good hv).len
  have h3 : 2 ^ m.length ≤ 2 ^ 12 := Nat.pow_le_pow_right (by decide) h12
  omega
theorem imgF_isWord (hv : validM m = true) (h12 : m.length ≤ 12) {j : Nat} (hj : j < (imgF m).length) : isWordM m (wordB (imgF m) j) = true := by
  have h1 := imgF_len hv h12 hj
  simp only [isWordM, Bool.and_eq_true, decide_eq_true_eq]
  exact ⟨by omega, (imgF_word hv hj).1⟩
theorem szB_image (hv : validM m = true) (h12 : m.length ≤ 12) {j : Nat} (hj : j < (imgF m).length) {u : List Int} (hp : plB (imgF m) j = ((imgWord m (2 ^ m.length - 1) u : Nat) : Int)) : (imageM m (allM m.length) u).length = szB (imgF m) j := by
  rw [image_len (by omega), szB, hp, Int.toNat_natCast]
theorem szB_pos (hv : validM m = true) (h12 : m.length ≤ 12) {j : Nat} (hj : j < (imgF m).length) : 1 ≤ szB (imgF m) j := by
  obtain ⟨p1, -⟩ := valid_parts hv
  have hw := imgF_isWord hv h12 hj
  rw [← szB_image hv h12 hj (imgF_word hv hj).2]
  have h := (hasB_all hv hw (t := runM m 0 (wordB (imgF m) j))).2 ⟨0, by omega, rfl⟩
  cases hi : imageM m (allM m.length) (wordB (imgF m) j) with
  | nil => rw [hi] at h; simp [hasB] at h
  | cons a l => simp
theorem imgF_rise (hv : validM m = true) {j k : Nat} (hjk : j < k) (hk : k < (imgF m).length) : SL (wordB (imgF m) j) (wordB (imgF m) k) :=
  words_rise (imgF_good hv).tree (OrdB.bfs (imgS m) (letters m) (2 ^ m.length - 1) (2 ^ m.length)) k j hjk hk
/-- The rank after k sets. -/
theorem rkS_spec {F : Steps} {n : Nat} (h0 : szB F 0 = n) (hw : wordB F 0 = []) : ∀ k, ∃ i, (i < k ∨ i = 0) ∧ (rkS F n k).1 = szB F i ∧ (rkS F n k).2 = wordB F i ∧ (∀ j, j < k → szB F i ≤ szB F j) ∧ ∀ j, j < i → szB F i < szB F j
  | 0 => ⟨0, .inr rfl, h0.symm, hw.symm, fun j hj => by omega, fun j hj => by omega⟩
  | k + 1 => by
    obtain ⟨i, h1, h2, h3, h4, h5⟩ := rkS_spec h0 hw k
    by_cases h : szB F k < (rkS F n k).1
    · have e : rkS F n (k + 1) = (szB F k, wordB F k) := by show (if szB F k < (rkS F n k).1 then _ else _) = _; rw [if_pos h]
      refine ⟨k, .inl (Nat.lt_succ_self k), by rw [e], by rw [e], fun j hj => ?_, fun j hj => ?_⟩
      · by_cases ej : j = k
        · subst ej; exact Nat.le_refl _
        · have := h4 j (by omega); omega
      · have := h4 j hj; omega
    · have e : rkS F n (k + 1) = rkS F n k := by show (if szB F k < (rkS F n k).1 then _ else _) = _; rw [if_neg h]
      refine ⟨i, by omega, by rw [e]; exact h2, by rw [e]; exact h3, fun j hj => ?_, h5⟩
      by_cases ej : j = k
      · subst ej; omega
      · exact h4 j (by omega)
theorem imgF_zero (hv : validM m = true) : 0 < (imgF m).length ∧ szB (imgF m) 0 = m.length ∧ wordB (imgF m) 0 = [] := by
  obtain ⟨p1, p2, -⟩ := valid_parts hv
  obtain ⟨h1, h2⟩ := bfs_zero (imgS m) (letters m) (2 ^ m.length - 1) (2 ^ m.length)
  refine ⟨h1, ?_, wordB_root (imgF_good hv).tree⟩
  unfold szB
  rw [show plB (imgF m) 0 = ((2 ^ m.length - 1 : Nat) : Int) from h2, Int.toNat_natCast, elems_below m.length (by omega)]
  simp
/-- The rank and its word. -/
theorem rank_spec (hv : validM m = true) : ∃ i, i < (imgF m).length ∧ (rkS (imgF m) m.length (imgF m).length).1 = szB (imgF m) i ∧ (rkS (imgF m) m.length (imgF m).length).2 = wordB (imgF m) i ∧
    (∀ j, j < (imgF m).length → szB (imgF m) i ≤ szB (imgF m) j) ∧ ∀ j, j < i → szB (imgF m) i < szB (imgF m) j := by
  obtain ⟨z1, z2, z3⟩ := imgF_zero hv
  obtain ⟨i, h1, h2⟩ := rkS_spec z2 z3 (imgF m).length
  exact ⟨i, by rcases h1 with h1 | h1 <;> omega, h2⟩
end
end Go.Proofs.YtiiiinoappjhdaaDoor
namespace Go.Proofs.YtiiiinoappjhdaaDoor
open Go.RowKit Go.Shelf
/-- A slice of truth values, of numbers, in blocks of a kind. -/
def BoolsP (W : World) (P : Nat → Prop) (v : Value) (l : List Bool) : Prop :=
  ∃ A cap, v = .slice A l.length cap ∧ l.length ≤ big ∧ ∀ i, i < l.length → ∃ b off, A = some ⟨b, off, none⟩ ∧ P b ∧ W.cell? ⟨b, off + i, none⟩ = some (.bool (l.getD i false))
def IntsP (W : World) (P : Nat → Prop) (v : Value) (l : List Int) : Prop :=
  ∃ A cap, v = .slice A l.length cap ∧ (A = none → cap = 0) ∧ l.length ≤ big ∧ ∀ i, i < l.length → ∃ b off, A = some ⟨b, off, none⟩ ∧ P b ∧ W.cell? ⟨b, off + i, none⟩ = some (.int .i64 (l.getD i 0))
theorem BoolsP.bools {W : World} {P : Nat → Prop} {v : Value} {l : List Bool} (h : BoolsP W P v l) : Bools W v l := by
  obtain ⟨A, cap, rfl, hl, hc⟩ := h
  exact ⟨A, cap, rfl, hl, fun i hi => by obtain ⟨b, off, h1, _, h2⟩ := hc i hi; exact ⟨b, off, h1, h2⟩⟩
theorem IntsP.ints {W : World} {P : Nat → Prop} {v : Value} {l : List Int} (h : IntsP W P v l) : Ints W v l := by
  obtain ⟨A, cap, rfl, -, hl, hc⟩ := h
  exact ⟨A, cap, rfl, hl, fun i hi => by obtain ⟨b, off, h1, _, h2⟩ := hc i hi; exact ⟨b, off, h1, h2⟩⟩
theorem BoolsP.kept {W W' : World} {P P' : Nat → Prop} {v : Value} {l : List Bool} (h : BoolsP W P v l) (hk : ∀ b, P b → b < W.heap.size → W'.heap[b]? = W.heap[b]?) (hP : ∀ b, P b → b < W.heap.size → P' b) : BoolsP W' P' v l := by
  obtain ⟨A, cap, rfl, hl, hc⟩ := h
  refine ⟨A, cap, rfl, hl, fun i hi => ?_⟩
  obtain ⟨b, off, h1, h2, h3⟩ := hc i hi
  have hb : b < W.heap.size := World.block_lt_of_cell? _ _ h3
  exact ⟨b, off, h1, hP b h2 hb, (World.cell?_of_block (hk b h2 hb)).trans h3⟩
theorem IntsP.kept {W W' : World} {P P' : Nat → Prop} {v : Value} {l : List Int} (h : IntsP W P v l) (hk : ∀ b, P b → b < W.heap.size → W'.heap[b]? = W.heap[b]?) (hP : ∀ b, P b → b < W.heap.size → P' b) : IntsP W' P' v l := by
  obtain ⟨A, cap, rfl, h0, hl, hc⟩ := h
  refine ⟨A, cap, rfl, h0, hl, fun i hi => ?_⟩
  obtain ⟨b, off, h1, h2, h3⟩ := hc i hi
  have hb : b < W.heap.size := World.block_lt_of_cell? _ _ h3
  exact ⟨b, off, h1, hP b h2 hb, (World.cell?_of_block (hk b h2 hb)).trans h3⟩
theorem BoolsP.own {W : World} {n₀ g n c : Nat} {P : Nat → Prop} {l : List Bool} (h : W.ownsRow n₀ 4 1 (.slice (some ⟨g, 0, none⟩) n c) n (l.map fun x => .bool x)) (hl : l.length = n) (hn : n ≤ big) (hP : P g) : BoolsP W P (.slice (some ⟨g, 0, none⟩) n c) l := by
  subst hl
  refine ⟨_, c, rfl, hn, fun i hi => ⟨g, 0, rfl, hP, ?_⟩⟩
  rw [Nat.zero_add, h.cellAt i (by omega)]
  simp [List.getElem?_map, List.getElem?_eq_getElem hi, List.getD_eq_getElem?_getD]
theorem IntsP.own {W : World} {n₀ n : Nat} {v : Value} {P : Nat → Prop} {l : List Int} (h : W.ownsRow n₀ 3 1 v n (l.map fun x => .int .i64 x)) (hl : l.length = n) (hn : n ≤ big) (hP : ∀ g, v.ownBlock = some g → P g) : IntsP W P v l := by
  subst hl
  rcases h.2 with ⟨rfl, h0⟩ | ⟨g, cap, cur, rfl, hg, hh, r⟩
  · exact ⟨none, 0, by rw [h0], fun _ => rfl, hn, fun i hi => by omega⟩
  · refine ⟨_, cap, rfl, (fun e => by cases e), hn, fun i hi => ⟨g, 0, rfl, hP g rfl, ?_⟩⟩
    rw [Nat.zero_add, h.cellAt i (by omega)]
    simp [List.getElem?_map, List.getElem?_eq_getElem hi, List.getD_eq_getElem?_getD]
/-- One set with its word. -/
def EltP (W : World) (P : Nat → Prop) (n : Nat) (vi vw : Value) (e : Nat × List Int) : Prop := BoolsP W P vi (bitL n e.1) ∧ IntsP W P vw e.2
theorem EltP.kept {W W' : World} {P P' : Nat → Prop} {n : Nat} {vi vw : Value} {e : Nat × List Int} (h : EltP W P n vi vw e) (hk : ∀ b, P b → b < W.heap.size → W'.heap[b]? = W.heap[b]?) (hP : ∀ b, P b → b < W.heap.size → P' b) : EltP W' P' n vi vw e :=
  ⟨h.1.kept hk hP, h.2.kept hk hP⟩
theorem EltP.one {W : World} {P : Nat → Prop} {n : Nat} {vi vw : Value} {e : Nat × List Int} (h : EltP W P n vi vw e) : vi.oneCell' = true ∧ vw.oneCell' = true := by
  obtain ⟨⟨A, c, rfl, _⟩, ⟨A', c', rfl, _⟩⟩ := h
  exact ⟨rfl, rfl⟩
/-- All blocks but one are as they were. -/
def KK (mb : Nat) (w w' : World) : Prop := w.heap.size ≤ w'.heap.size ∧ ∀ b, b < w.heap.size → b ≠ mb → w'.heap[b]? = w.heap[b]?
theorem KK.refl (mb : Nat) (w : World) : KK mb w w := ⟨Nat.le_refl _, fun _ _ _ => rfl⟩
theorem KK.trans {mb : Nat} {w w' w'' : World} (h : KK mb w w') (k : KK mb w' w'') : KK mb w w'' :=
  ⟨Nat.le_trans h.1 k.1, fun b hb hne => (k.2 b (Nat.lt_of_lt_of_le hb h.1) hne).trans (h.2 b hb hne)⟩
theorem KK.below {mb n₀ : Nat} {w w' : World} (h : Below n₀ w w') (hn : n₀ = w.heap.size) : KK mb w w' := by
  subst hn
  exact ⟨h.size, fun b hb _ => h.block b hb⟩
theorem KK.step {mb : Nat} {w w' w'' : World} (h : KK mb w w') (k : Below w'.heap.size w' w'') : KK mb w w'' := h.trans (KK.below k rfl)
theorem KK.set {mb o : Nat} {w w' : World} {u : Value} (h : KK mb w w') : KK mb w (w'.setCell ⟨mb, o, none⟩ u) :=
  ⟨by simp [World.setCell]; exact h.1, fun b hb hne => (Below.heap_setCell _ _ _ _ (by simpa using hne)).trans (h.2 b hb hne)⟩
theorem KK.grown {mb n₀ : Nat} {w w' w5 : World} {v : Option Nat} (h : KK mb w w') (hg : w'.grownBy w5 v) (hv : ∀ g, v = some g → w.heap.size ≤ g) : KK mb w w5 :=
  ⟨Nat.le_trans h.1 hg.size, fun b hb hne => (hg.block b (Nat.lt_of_lt_of_le hb h.1) (fun e => by have := hv b e.symm; omega)).trans (h.2 b hb hne)⟩
theorem KK.cell {mb : Nat} {w w' : World} {a : Addr} {u : Value} (h : KK mb w w') (hc : w.cell? a = some u) (hne : a.block ≠ mb) : w'.cell? a = some u :=
  (World.cell?_of_block (h.2 a.block (World.block_lt_of_cell? _ _ hc) hne)).trans hc
/-- A level: sets with their words; no block of it is mb. -/
def LvlAt (W : World) (mb n : Nat) (v : Value) (L : List (Nat × List Int)) : Prop :=
  ∃ A cap, v = .slice A L.length cap ∧ ∀ i, i < L.length → ∃ b off vi vw, A = some ⟨b, off, none⟩ ∧ b ≠ mb ∧ W.cell? ⟨b, off + i * 2, none⟩ = some vi ∧ W.cell? ⟨b, off + i * 2 + 1, none⟩ = some vw ∧ EltP W (fun b => b ≠ mb) n vi vw (L.getD i (0, []))
theorem LvlAt.kk {W W' : World} {mb n : Nat} {v : Value} {L : List (Nat × List Int)} (h : LvlAt W mb n v L) (k : KK mb W W') : LvlAt W' mb n v L := by
  obtain ⟨A, cap, rfl, hc⟩ := h
  refine ⟨A, cap, rfl, fun i hi => ?_⟩
  obtain ⟨b, off, vi, vw, h1, h2, h3, h4, h5⟩ := hc i hi
  exact ⟨b, off, vi, vw, h1, h2, k.cell h3 h2, k.cell h4 h2, h5.kept (fun b hb hs => k.2 b hs hb) (fun _ h _ => h)⟩
/-- A level that is being made, of the call's own from base on. -/
def MSets (W : World) (base n : Nat) (v : Value) (L : List (Nat × List Int)) : Prop :=
  ∃ xs : List Value, W.ownsRow base 66 2 v L.length xs ∧ ∀ i, i < L.length → ∃ vi vw, xs[i * 2]? = some vi ∧ xs[i * 2 + 1]? = some vw ∧ EltP W (fun b => base ≤ b ∧ some b ≠ v.ownBlock) n vi vw (L.getD i (0, []))
theorem MSets.nil (W : World) (base n : Nat) : MSets W base n (.slice none 0 0) [] := ⟨[], World.ownsRow_nil _ _ _ _, fun i hi => by simp at hi⟩
theorem MSets.slice {W : World} {base n : Nat} {v : Value} {L : List (Nat × List Int)} (h : MSets W base n v L) : ∃ A c, v = .slice A L.length c ∧ ∀ g, v.ownBlock = some g → base ≤ g ∧ g < W.heap.size := by
  obtain ⟨xs, ho, _⟩ := h
  rcases ho.2 with ⟨hu, h0⟩ | ⟨g, cap, cur, hu, hg, hh, _⟩
  · exact ⟨none, 0, by rw [hu, h0], fun g' h => by rw [hu] at h; cases h⟩
  · exact ⟨_, cap, hu, fun g' h => by rw [hu] at h; cases h; exact ⟨hg, lt_of_block hh⟩⟩
theorem MSets.kept {W W' : World} {base n : Nat} {v : Value} {L : List (Nat × List Int)} (h : MSets W base n v L) (hk : ∀ b, base ≤ b → b < W.heap.size → W'.heap[b]? = W.heap[b]?) : MSets W' base n v L := by
  obtain ⟨xs, ho, hx⟩ := h
  refine ⟨xs, owns_kept ho hk, fun i hi => ?_⟩
  obtain ⟨vi, vw, h1, h2, h3⟩ := hx i hi
  exact ⟨vi, vw, h1, h2, h3.kept (fun b hb hs => hk b hb.1 hs) (fun _ h _ => h)⟩
theorem MSets.lvl {W : World} {base mb n : Nat} {v : Value} {L : List (Nat × List Int)} (h : MSets W base n v L) (hm : mb < base) : LvlAt W mb n v L := by
  obtain ⟨A, c, hv, hb⟩ := h.slice
  obtain ⟨xs, ho, hx⟩ := h
  refine ⟨A, c, hv, fun i hi => ?_⟩
  obtain ⟨vi, vw, h1, h2, h3⟩ := hx i hi
  rcases ho.2 with ⟨hu, h0⟩ | ⟨g, cap, cur, hu, hg, hh, _⟩
  · omega
  · rw [hu] at hv
    simp only [Value.slice.injEq] at hv
    obtain ⟨rfl, -, rfl⟩ := hv
    have k := World.ownsRow.cells ho (g := g) (by rw [hu]; rfl)
    have a1 := k _ _ h1
    have a2 := k _ _ h2
    simp only [Addr.add] at a1 a2
    refine ⟨g, 0, vi, vw, rfl, by omega, ?_, ?_, h3.kept (fun _ _ _ => rfl) (fun b hb _ => by have := hb.1; show b ≠ mb; omega)⟩
    · by_cases e : i * 2 = 0
      · rw [e] at a1 ⊢; simpa using a1
      · simpa [e] using a1
    · simpa using a2
/-- One more, by an append. -/
theorem MSets.pushed {W w5 : World} {base n : Nat} {v v' vi vw : Value} {L : List (Nat × List Int)} {xs : List Value} {e : Nat × List Int} (hx : ∀ i, i < L.length → ∃ vi vw, xs[i * 2]? = some vi ∧ xs[i * 2 + 1]? = some vw ∧ EltP W (fun b => base ≤ b ∧ some b ≠ v.ownBlock) n vi vw (L.getD i (0, []))) (hxl : xs.length = L.length * 2)
    (he : EltP W (fun b => base ≤ b ∧ some b ≠ v.ownBlock) n vi vw e) (ho : w5.ownsRow base 66 2 v' (L.length + 1) (xs ++ [vi, vw])) (hg : W.grownBy w5 v.ownBlock) (hat : v'.ownBlock = v.ownBlock ∨ v'.ownBlock = some W.heap.size) : MSets w5 base n v' (L ++ [e]) := by
  refine ⟨xs ++ [vi, vw], by simpa using ho, fun i hi => ?_⟩
  have key : ∀ {vi vw : Value} {e : Nat × List Int}, EltP W (fun b => base ≤ b ∧ some b ≠ v.ownBlock) n vi vw e → EltP w5 (fun b => base ≤ b ∧ some b ≠ v'.ownBlock) n vi vw e := fun h =>
    h.kept (fun b hb hs => hg.block b hs (fun e => hb.2 e)) (fun b hb hs => ⟨hb.1, fun e => by
      rcases hat with h1 | h1
      · exact hb.2 (e.trans h1)
      · rw [h1] at e
        have : b = W.heap.size := by simpa using e
        omega⟩)
  simp only [List.length_append, List.length_cons, List.length_nil] at hi
  by_cases hil : i < L.length
  · obtain ⟨vi', vw', h1, h2, h3⟩ := hx i hil
    refine ⟨vi', vw', by rw [List.getElem?_append_left (by omega)]; exact h1, by rw [List.getElem?_append_left (by omega)]; exact h2, ?_⟩
    have e2 : (L ++ [e]).getD i (0, []) = L.getD i (0, []) := by simp [List.getD_eq_getElem?_getD, List.getElem?_append_left hil]
    rw [e2]; exact key h3
  · obtain rfl : i = L.length := by omega
    refine ⟨vi, vw, by rw [← hxl]; simp, by rw [← hxl, List.getElem?_append_right (by omega)]; simp, ?_⟩
    have e2 : (L ++ [e]).getD L.length (0, []) = e := by simp [List.getD_eq_getElem?_getD]
    rw [e2]; exact key he
section
variable {m : List (List Int)}
/-- The steps when round j begins. -/
def BFm (m : List (List Int)) (j : Nat) : Steps := bfsTo (imgS m) (letters m) (2 ^ m.length - 1) j
/-- .. and within the round, before letter x. -/
def RFm (m : List (List Int)) (j x : Nat) : Steps := rowB (imgS m) (BFm m j) (plB (BFm m j) j).toNat j x
theorem BFm_good (hv : validM m = true) (j : Nat) : GoodB (2 ^ m.length) (BFm m j) :=
  GoodB.bfs (by have := Nat.two_pow_pos m.length; omega) (by have := (valid_parts hv).2.2.2.1; omega) (fun p x hp hx => imgS_lt hv hp hx) _
theorem BFm_le (m : List (List Int)) {i j : Nat} (h : i ≤ j) : BFm m i <+: BFm m j := by
  have := bfs_pre_le (imgS m) (letters m) (2 ^ m.length - 1) i (j - i)
  rwa [show i + (j - i) = j by omega] at this
theorem BFm_pre (m : List (List Int)) {j : Nat} (h : j ≤ 2 ^ m.length) : BFm m j <+: imgF m := BFm_le m h
theorem BFm_succ {j : Nat} (h : j < (BFm m j).length) : BFm m (j + 1) = RFm m j (letters m) := by
  show (if j < (bfsTo (imgS m) (letters m) (2 ^ m.length - 1) j).length then _ else _) = _
  rw [if_pos (show j < (bfsTo (imgS m) (letters m) (2 ^ m.length - 1) j).length from h)]
  rfl
theorem BFm_more (hv : validM m = true) {j : Nat} (h : j < (imgF m).length) : j < (BFm m j).length := by
  have hl := (imgF_good hv).len
  rcases Nat.lt_or_ge j (BFm m j).length with h1 | h1
  · exact h1
  · exfalso
    have e := bfs_stop (imgS m) (letters m) (2 ^ m.length - 1) j h1 (2 ^ m.length - j)
    rw [show j + (2 ^ m.length - j) = 2 ^ m.length by omega] at e
    have e2 : imgF m = BFm m j := e
    rw [e2] at h; omega
theorem RFm_pre (hv : validM m = true) {j x : Nat} (h : j < (imgF m).length) (hx : x ≤ letters m) : RFm m j x <+: imgF m := by
  have h1 := BFm_more hv h
  have h2 := (imgF_good hv).len
  have h3 := rowB_le (imgS m) (BFm m j) (plB (BFm m j) j).toNat j (letters m - x) x
  rw [show x + (letters m - x) = letters m by omega] at h3
  have h4 : RFm m j (letters m) <+: imgF m := by rw [← BFm_succ h1]; exact BFm_pre m (by omega)
  exact h3.trans h4
theorem BFm_place (hv : validM m = true) {j : Nat} (h : j < (imgF m).length) : plB (BFm m j) j = plB (imgF m) j :=
  ((pre_pl (BFm_pre m (by have := (imgF_good hv).len; omega)) j (BFm_more hv h)).1).symm
/-- The place of a step. -/
def plN (m : List (List Int)) (j : Nat) : Nat := (plB (imgF m) j).toNat
theorem plN_lt (hv : validM m = true) {j : Nat} (h : j < (imgF m).length) : plN m j < 2 ^ m.length := by
  obtain ⟨p, h1, h2⟩ := (imgF_good hv).below j h
  unfold plN; rw [h1, Int.toNat_natCast]; exact h2
theorem RFm_succ (hv : validM m = true) {j x : Nat} (h : j < (imgF m).length) : RFm m j (x + 1) = if hasP (RFm m j x) (imgS m (plN m j) x) then RFm m j x else RFm m j x ++ [(((imgS m (plN m j) x : Nat) : Int), (j : Int), (x : Int))] := by
  have e : RFm m j (x + 1) = addB (imgS m) (RFm m j x) (plB (BFm m j) j).toNat j x := rfl
  rw [e, BFm_place hv h]
  rfl
/-- The sets and words of the steps from lo on. -/
def segF (m : List (List Int)) (lo hi : Nat) : List (Nat × List Int) := (List.range (hi - lo)).map fun i => (plN m (lo + i), wordB (imgF m) (lo + i))
theorem segF_len (m : List (List Int)) (lo hi : Nat) : (segF m lo hi).length = hi - lo := by simp [segF]
theorem segF_at (m : List (List Int)) {lo hi i : Nat} (h : i < hi - lo) : (segF m lo hi).getD i (0, []) = (plN m (lo + i), wordB (imgF m) (lo + i)) := by
  simp [segF, List.getD_eq_getElem?_getD, List.getElem?_map, List.getElem?_range h]
theorem segF_nil (m : List (List Int)) (lo : Nat) : segF m lo lo = [] := by simp [segF]
theorem segF_snoc (m : List (List Int)) {lo k : Nat} (h : lo ≤ k) : segF m lo (k + 1) = segF m lo k ++ [(plN m k, wordB (imgF m) k)] := by
  unfold segF
  rw [show k + 1 - lo = (k - lo) + 1 by omega, List.range_succ, List.map_append]
  simp only [List.map_cons, List.map_nil]
  rw [show lo + (k - lo) = k by omega]
/-- A new step: its place and its word. -/
theorem new_step (hv : validM m = true) {j x : Nat} (h : j < (imgF m).length) (hx : x < letters m) (hn : hasP (RFm m j x) (imgS m (plN m j) x) = false) :
    (RFm m j x).length < (imgF m).length ∧ plN m (RFm m j x).length = imgS m (plN m j) x ∧ wordB (imgF m) (RFm m j x).length = wordB (imgF m) j ++ [(x : Int)] ∧ RFm m j (x + 1) = RFm m j x ++ [(((imgS m (plN m j) x : Nat) : Int), (j : Int), (x : Int))] := by
  have e := RFm_succ hv (x := x) h
  rw [hn] at e
  have e : RFm m j (x + 1) = RFm m j x ++ [(((imgS m (plN m j) x : Nat) : Int), (j : Int), (x : Int))] := e
  have hp := RFm_pre hv (j := j) (x := x + 1) h (by omega)
  have hk : (RFm m j x).length < (RFm m j (x + 1)).length := by rw [e]; simp
  have hkF := Nat.lt_of_lt_of_le hk hp.length_le
  obtain ⟨r1, r2, r3⟩ := pre_pl hp _ hk
  obtain ⟨s1, s2, s3⟩ := snoc_pl (RFm m j x) (imgS m (plN m j) x) (j : Int) (x : Int)
  rw [e] at r1 r2 r3
  rw [s1] at r1
  rw [s2] at r2
  rw [s3] at r3
  have h0 : 0 < (RFm m j x).length := by
    have h1 := BFm_more hv h
    have h2 := (rowB_le (imgS m) (BFm m j) (plB (BFm m j) j).toNat j x 0).length_le
    rw [Nat.zero_add] at h2
    have h3 : (BFm m j).length ≤ (RFm m j x).length := h2
    omega
  refine ⟨hkF, by unfold plN; rw [r1, Int.toNat_natCast]; rfl, ?_, e⟩
  rw [wordB_step (imgF_good hv).tree h0 hkF, r2, r3, Int.toNat_natCast]
/-- The marks of the sets that were met. -/
def markF (n : Nat) (R : Steps) (c : Nat) : Bool := R.any fun t => codeN n t.1.toNat == c
theorem markF_has {n : Nat} {R : Steps} {T : Nat} (hR : GoodB (2 ^ n) R) (hT : T < 2 ^ n) : markF n R (codeN n T) = hasP R T := by
  unfold markF hasP
  rw [Bool.eq_iff_iff, List.any_eq_true, List.any_eq_true]
  constructor
  · rintro ⟨t, ht, he⟩
    refine ⟨t, ht, ?_⟩
    obtain ⟨i, hi, rfl⟩ := List.mem_iff_getElem.1 ht
    obtain ⟨p, hp, hpn⟩ := hR.below i hi
    unfold plB at hp
    rw [List.getD_eq_getElem?_getD, List.getElem?_eq_getElem hi, Option.getD_some] at hp
    rw [hp, Int.toNat_natCast] at he
    rw [hp, codeN_inj hpn hT (beq_iff_eq.1 he)]
    simp
  · rintro ⟨t, ht, he⟩
    refine ⟨t, ht, ?_⟩
    rw [beq_iff_eq.1 he, Int.toNat_natCast]
    simp
theorem markF_snoc (n : Nat) (R : Steps) (T : Nat) (i x : Int) (c : Nat) : markF n (R ++ [((T : Int), i, x)]) c = if c = codeN n T then true else markF n R c := by
  unfold markF
  rw [List.any_append]
  by_cases h : c = codeN n T
  · rw [if_pos h, h]; simp
  · rw [if_neg h]
    have : (codeN n T == c) = false := beq_eq_false_iff_ne.2 (fun e => h e.symm)
    simp [this]
end
end Go.Proofs.YtiiiinoappjhdaaDoor
namespace Go.Proofs.YtiiiinoappjhdaaDoor
open Go.RowKit Go.Shelf
theorem MRows.slice {W : World} {base : Nat} {v : Value} {m : List (List Int)} (h : MRows W base v m) : ∃ A c, v = .slice A m.length c ∧ ∀ g, v.ownBlock = some g → base ≤ g ∧ g < W.heap.size := by
  obtain ⟨xs, ho, _⟩ := h
  rcases ho.2 with ⟨hu, h0⟩ | ⟨g, cap, cur, hu, hg, hh, _⟩
  · exact ⟨none, 0, by rw [hu, h0], fun g' h => by rw [hu] at h; cases h⟩
  · exact ⟨_, cap, hu, fun g' h => by rw [hu] at h; cases h; exact ⟨hg, lt_of_block hh⟩⟩
end Go.Proofs.YtiiiinoappjhdaaDoor
namespace Go.Proofs.YtiiiinoappjhdaaDoor
open Go.RowKit Go.Shelf
theorem infoSets : (Tryd.prog.info? 66).map (fun i => (i.zero, i.size, i.bytes)) = some (some (.agg #[.slice none 0 0, .slice none 0 0]), 2, 48) := by kernel_rfl
theorem pair_newV (w : World) (x y : Value) (t : TypeId) (k : Nat) (hk : k = w.heap.size) : ∀ j u, [x, y][j]? = some u → (w.alloc (.cells #[x, y] t)).cell? ((⟨k, 0, none⟩ : Addr).add j) = some u := by
  subst hk
  intro j u hj
  match j, hj with
  | 0, hj => simp at hj; subst hj; simp [Addr.add]
  | 1, hj => simp at hj; subst hj; simp [Addr.add]
/-- 'append(level, Sets{is, word})'. -/
theorem wpList_append_sets {W : World} {ops : Array Oper} {rest : List Oper} {o : Oper} {a : Act} {Q : Exit → Act → World → Prop} (hgd : o.guard = none) (s x : Operand)
    (ho : o.op = .call { callee := .builtin .append, args := #[s, x], argTypes := #[67, 67] }) (base n : Nat) (v vi vw : Value) (L : List (Nat × List Int)) (e : Nat × List Int) (t : TypeId) (w0 : World) (hW : W = w0.alloc (.cells #[vi, vw] t)) (k : Nat) (hk : k = w0.heap.size)
    (hs : a.eval s = v) (hM : MSets w0 base n v L) (hx : a.eval x = .slice (some ⟨k, 0, none⟩) 1 1) (hu : EltP w0 (fun b => base ≤ b ∧ some b ≠ v.ownBlock) n vi vw e) (hb : base ≤ w0.heap.size) (hlen : L.length ≤ 100000)
    (h : ∀ A c w', MSets w' base n (.slice A (L.length + 1) c) (L ++ [e]) → Below base w0 w' → w0.heap.size ≤ w'.heap.size → wpList Tryd.prog ops Q rest (a.put o.dst (.slice A (L.length + 1) c)) w') :
    wpList Tryd.prog ops Q (o :: rest) a W := by
  subst hk
  subst hW
  obtain ⟨i0, hi, hz0, hz1, hz2⟩ := info_parts infoSets
  obtain ⟨A0, c0, rfl, hblk⟩ := hM.slice
  obtain ⟨xs, hxo, hxx⟩ := id hM
  obtain ⟨o1, o2⟩ := hu.one
  have hone : ∀ u' ∈ [vi, vw], u'.oneCell' = true := by
    intro u' hu'
    simp only [List.mem_cons, List.mem_nil_iff, or_false] at hu'
    rcases hu' with rfl | rfl
    · exact o1
    · exact o2
  refine wpList_append_own_at _ hgd s x 67 ho base 66 i0 (.agg #[.slice none 0 0, .slice none 0 0]) 2 48 Tryd.underlying67 hi hz0 hz1 hz2 rfl (by decide) _ _ _ hs (hxo.alloc _) ⟨w0.heap.size, 0, none⟩ 1 1 [vi, vw] hx rfl (pair_newV _ _ _ _ _ rfl) hone (by unfold maxLen; omega) (by omega) (by simp; omega) ?_
  intro v' w5 hown' hgrow' _ hat
  obtain ⟨g', cap', rfl⟩ := ownsRow_succ hown'
  have hB : Below base w0 w5 := ((Below.refl _ _).alloc hb _).grown hgrow' (by simp; omega) (fun q hq => (hblk q hq).1)
  refine h _ _ _ ?_ hB hB.size
  exact MSets.pushed (W := w0.alloc (.cells #[vi, vw] t)) (base := base) (v := .slice A0 L.length c0) (L := L) (e := e) (xs := xs) (vi := vi) (vw := vw)
    (fun i hi => by obtain ⟨a, b, h1, h2, h3⟩ := hxx i hi; exact ⟨a, b, h1, h2, h3.kept (fun q _ hq => Below.heap_alloc _ _ _ hq) (fun _ h _ => h)⟩) hxo.1
    (hu.kept (fun q _ hq => Below.heap_alloc _ _ _ hq) (fun _ h _ => h)) hown' hgrow' hat
/-- The table of marks. -/
def MetAt (W : World) (n₀ mb n N : Nat) (R : Steps) : Prop := W.ownsRow n₀ 4 1 (.slice (some ⟨mb, 0, none⟩) N N) N ((Lb N (markF n R)).map fun x => .bool x)
theorem MetAt.kept {W W' : World} {n₀ mb n N : Nat} {R : Steps} (h : MetAt W n₀ mb n N R) (hk : W'.heap[mb]? = W.heap[mb]?) : MetAt W' n₀ mb n N R := owns_block h hk
theorem MetAt.lt {W : World} {n₀ mb n N : Nat} {R : Steps} (h : MetAt W n₀ mb n N R) : n₀ ≤ mb ∧ mb < W.heap.size := ownq_lt h
theorem MetAt.cell {W : World} {n₀ mb n N T c : Nat} {R : Steps} (h : MetAt W n₀ mb n N R) (hN : 2 ^ n = N) (hR : GoodB (2 ^ n) R) (hT : T < 2 ^ n) (hc : codeN n T = c) : W.cell? ⟨mb, c, none⟩ = some (.bool (hasP R T)) := by
  have h1 := codeN_lt n T
  unfold MetAt at h
  rw [h.cellAt _ (by omega), Lb_cell _ (by omega), ← hc, markF_has hR hT]
theorem MetAt.set {W : World} {n₀ mb n N T c : Nat} {R : Steps} (h : MetAt W n₀ mb n N R) (hc : codeN n T = c) (i x : Int) : MetAt (W.setCell ⟨mb, c, none⟩ (.bool true)) n₀ mb n N (R ++ [((T : Int), i, x)]) := by
  have h1 := (World.ownsRow.stored h c (.bool true)).1
  rw [← List.map_set_bool, Lb_set] at h1
  have e : Lb N (fun a => if a = c then true else markF n R a) = Lb N (markF n (R ++ [((T : Int), i, x)])) := Lb_congr fun a _ => by rw [markF_snoc, hc]
  rw [e] at h1
  exact h1
theorem MetAt.free {W : World} {n₀ mb n N : Nat} {R : Steps} (h : MetAt W n₀ mb n N R) (c : Nat) : W.frozen? ⟨mb, c, none⟩ = false := World.ownsRow.frozenAt h c
theorem rCode_as (v : Value) (l : List Bool) (c : Nat) (w : World) (h : Bools w v l) (hl12 : l.length ≤ 12) (hc : Hid (codeL l = c)) :
    Calls Tryd.prog 39 #[v] w fun e w' => e = .returned (.int .i64 (c : Nat)) ∧ w = w' := by
  rw [← hc.out]; exact rCode_any v l w h hl12
theorem rCount_as (v : Value) (l : List Bool) (c : Nat) (w : World) (h : Bools w v l) (hl12 : l.length ≤ 60) (hc : Hid (cntL l = c)) :
    Calls Tryd.prog 40 #[v] w fun e w' => e = .returned (.int .i64 (c : Nat)) ∧ w = w' := by
  rw [← hc.out]; exact rCount_any v l w h hl12
/-- What a round of the inner loop leaves, where a new set was met. -/
theorem first_new {w wo y1 w5 w6 w7 : World} {n₀ mb n N T c : Nat} {R : Steps} {x : Int} {i : Int}
    (hMet : MetAt y1 n₀ mb n N R) (hc : codeN n T = c) (hmw : w.heap.size ≤ mb) (hmo : mb < wo.heap.size) (hB : Below w.heap.size w y1) (hK : KK mb wo y1)
    (hB5 : Below y1.heap.size (y1.setCell ⟨mb, c, none⟩ (.bool true)) w5) (hB6 : Below y1.heap.size w5 w6) (hB7 : Below wo.heap.size w6 w7) :
    MetAt w7 n₀ mb n N (R ++ [((T : Int), i, x)]) ∧ Below w.heap.size w w7 ∧ KK mb wo w7 := by
  have hs : (y1.setCell ⟨mb, c, none⟩ (.bool true)).heap.size = y1.heap.size := by simp [World.setCell]
  have hoy := hK.1
  have h56 := hB5.trans hB6
  have hml := hMet.lt
  have hK2 : KK mb wo (y1.setCell ⟨mb, c, none⟩ (.bool true)) := hK.set
  have hK6 : KK mb wo w6 := hK2.trans (KK.below h56 hs.symm)
  have hBs := hB.setCell (p := ⟨mb, c, none⟩) hmw (.bool true)
  refine ⟨(hMet.set hc i x).kept ((hB7.block _ hmo).trans (h56.block _ (by omega))), (hBs.trans (h56.mono (by have := hB.size; omega))).trans (hB7.mono ?_), Nat.le_trans hK6.1 hB7.size, fun b hb hne => (hB7.block _ hb).trans (hK6.2 b hb hne)⟩
  omega
end Go.Proofs.YtiiiinoappjhdaaDoor
namespace Go.Proofs.YtiiiinoappjhdaaDoor
open Go.RowKit Go.Shelf
theorem shl_pow {n N : Nat} (h : n ≤ 12) (hN : 2 ^ n = N) : wrap64 ((2 : Int) ^ n) = (N : Int) := by
  have : 2 ^ n ≤ 2 ^ 12 := Nat.pow_le_pow_right (by decide) h
  rw [pow_cast, hN]
  exact IntWalk.wrap64_in _ (by omega)
theorem codeN_bound {n N T c : Nat} (hN : 2 ^ n = N) (hc : codeN n T = c) : c < N := by
  have := codeN_lt n T
  rw [hN, hc] at this
  exact this
theorem start_bits {n : Nat} : Lb n (fun i => decide (i < n)) = bitL n (2 ^ n - 1) := Lb_congr fun i hi => by rw [testBit_below]
theorem lvl_first {W : World} {mb n a b : Nat} (hb : W.heap[b]? = some (.cells #[.slice (some ⟨a, 0, none⟩) n n, .slice none 0 0] 66 (0, 0))) (hbm : b ≠ mb) (ha : BoolsP W (fun b => b ≠ mb) (.slice (some ⟨a, 0, none⟩) n n) (bitL n (2 ^ n - 1))) :
    LvlAt W mb n (.slice (some ⟨b, 0, none⟩) 1 1) [(2 ^ n - 1, [])] := by
  refine ⟨some ⟨b, 0, none⟩, 1, rfl, fun i hi => ?_⟩
  obtain rfl : i = 0 := by simpa using hi
  exact ⟨b, 0, _, _, rfl, hbm, by simp [World.cell?, hb], by simp [World.cell?, hb], ha, ⟨none, 0, rfl, fun _ => rfl, by unfold big; simp, fun i hi => by simp at hi⟩⟩
theorem segF_start {m : List (List Int)} (hv : validM m = true) : segF m 0 1 = [(2 ^ m.length - 1, [])] := by
  obtain ⟨z1, z2, z3⟩ := imgF_zero hv
  obtain ⟨-, h2⟩ := bfs_zero (imgS m) (letters m) (2 ^ m.length - 1) (2 ^ m.length)
  have e : plN m 0 = 2 ^ m.length - 1 := by
    unfold plN
    rw [show plB (imgF m) 0 = ((2 ^ m.length - 1 : Nat) : Int) from h2, Int.toNat_natCast]
  rw [segF_snoc m (Nat.le_refl 0), segF_nil, e, z3]
  rfl
theorem own_empty (w : World) (k : Nat) (hk : k = w.heap.size) : (w.alloc (.cells #[] 3)).ownsRow k 3 1 (.slice (some ⟨k, 0, none⟩) 0 0) 0 [] := by
  subst hk
  exact ⟨rfl, .inr ⟨w.heap.size, 0, #[], rfl, Nat.le_refl _, World.alloc_heap_new _ _, Nat.le_refl _, by unfold maxLen; omega, rfl, rfl⟩⟩
/-- The element of a level. -/
theorem lvl_elem {W : World} {mb lo hi i Ln c9 : Nat} {A9 : Option Addr} {m : List (List Int)} (h : LvlAt W mb m.length (.slice A9 Ln c9) (segF m lo hi)) (hLn : hi - lo = Ln) (hi2 : i < Ln) :
    ∃ b off Ai ci Aw cw, A9 = some ⟨b, off, none⟩ ∧ b ≠ mb ∧ W.cell? ⟨b, off + i * 2, none⟩ = some (.slice Ai m.length ci) ∧ W.cell? ⟨b, off + i * 2 + 1, none⟩ = some (.slice Aw (wordB (imgF m) (lo + i)).length cw) ∧ BoolsP W (fun b => b ≠ mb) (.slice Ai m.length ci) (bitL m.length (plN m (lo + i))) ∧ IntsP W (fun b => b ≠ mb) (.slice Aw (wordB (imgF m) (lo + i)).length cw) (wordB (imgF m) (lo + i)) ∧ (Aw = none → cw = 0) := by
  obtain ⟨A', cap', hv, hc⟩ := h
  simp only [Value.slice.injEq] at hv
  obtain ⟨rfl, -, rfl⟩ := hv
  obtain ⟨b, off, vi, vw, h1, h2, h3, h4, h5⟩ := hc i (by rw [segF_len]; omega)
  rw [segF_at m (by omega)] at h5
  obtain ⟨hb1, hw1⟩ := h5
  obtain ⟨Ai, ci, rfl, hrest⟩ := id hb1
  obtain ⟨Aw, cw, rfl, hn, hrest2⟩ := id hw1
  rw [bitL_len] at h3 hb1
  exact ⟨b, off, Ai, ci, Aw, cw, h1, h2, h3, h4, hb1, hw1, hn⟩
set_option maxRecDepth 100000 in
set_option maxHeartbeats 40000000 in
theorem rFirst_any (v : Value) (m : List (List Int)) (most i0 : Nat) (w : World) (h : Rows w v m) (hv : validM m = true) (h12 : m.length ≤ 12) (hi0 : i0 < (imgF m).length) (hle : szB (imgF m) i0 ≤ most) (hlow : ∀ j, j < i0 → most < szB (imgF m) j) (hmost : most ≤ 1000) :
    Calls Tryd.prog 14 #[.agg #[v], .int .i64 most] w fun e w' => ∃ A c, e = .returned (.tuple #[.slice A (wordB (imgF m) i0).length c, .bool true]) ∧ Ints w' (.slice A (wordB (imgF m) i0).length c) (wordB (imgF m) i0) ∧ Below w.heap.size w w' := by
  obtain ⟨j0, hj, hy0, hy1, hy2⟩ := info_parts infoBool
  obtain ⟨k0, hk, kz0, kz1, kz2⟩ := info_parts infoIntE
  obtain ⟨p1, p2, p3, p4, -⟩ := valid_parts hv
  obtain ⟨A, cap, rfl, hml, -⟩ := id h
  have hF := (imgF_good hv).len
  have hpow : 2 ^ m.length ≤ 2 ^ 12 := Nat.pow_le_pow_right (by decide) h12
  have hpos := Nat.two_pow_pos m.length
  obtain ⟨N, hN⟩ : ∃ N, 2 ^ m.length = N := ⟨_, rfl⟩
  have HN := hid hN
  have hN4 : N ≤ 4096 := by rw [← hN]; exact Nat.le_trans hpow (by decide)
  have hN8 : 1 * N ≤ 281474976710656 := by omega
  have hNl : N ≤ maxLen := by unfold maxLen; omega
  have hNp : 0 < N := by rw [← hN]; exact hpos
  have hFN : (imgF m).length ≤ N := by rw [← hN]; exact hF
  have hX := bal (Below.refl _ w) (.cells #[.slice A m.length cap] 24)
  have Hlow := hid hlow
  have hshl := shl_pow h12 hN
  clear hlow hN hpow hpos hF
  go_enter Tryd.func14, Tryd.ntmps14
  go_wp2_with (at_make; go_must (refine wpList_make_full _ rfl _ _ 63 rfl (w.heap.size + 1) 4 j0 (.bool false) 1 Tryd.underlying63 hj hy0 hy1 .i64 .i64 _ _ m.length rfl rfl rfl rfl (by rw [hy2]; omega) (by unfold maxLen; omega) (by simp) ?_); intro w1 hown hgrow; rw [show Value.cells (.bool false) = #[.bool false] from rfl, toList_madeCells_one, Nat.mul_one] at hown; simp only [World.size_alloc] at hown)
  have hB1 := hX.grown hgrow (by simp) (fun q hq => by cases hq)
  have bx : w1.cell? ⟨w.heap.size, 0, none⟩ = some (.slice A m.length cap) := (World.cell?_of_block (hgrow.block w.heap.size (by simp) (by simp))).trans (by simp [go_sem])
  have hown0 : w1.ownsRow (w.heap.size + 1) 4 1 (.slice (some ⟨w.heap.size + 1, 0, none⟩) m.length m.length) m.length ((Lb m.length (fun i => decide (i < 0))).map fun x => .bool x) := by
    have e : ((Lb m.length (fun i => decide (i < 0))).map fun x => Value.bool x) = List.replicate m.length (.bool false) := by
      apply List.ext_getElem
      · simp [Lb]
      · intro i h1 h2; simp [Lb]
    rw [e]; simpa using hown
  clear hown hgrow hX
  go_loopw [7] (fun sv wr => ∃ (s : Nat), s ≤ m.length ∧ sv = .int .i64 s ∧ wr.ownsRow (w.heap.size + 1) 4 1 (.slice (some ⟨w.heap.size + 1, 0, none⟩) m.length m.length) m.length ((Lb m.length (fun i => decide (i < s))).map fun x => .bool x) ∧ Below w.heap.size w wr ∧ wr.cell? ⟨w.heap.size, 0, none⟩ = some (.slice A m.length cap)) (fun sv _ => m.length - (intOf sv).toNat)
  case atStart => exact ⟨0, Nat.zero_le _, rfl, hown0, hB1, bx⟩
  case round =>
    clear hown0 hB1 bx
    obtain ⟨s, hs, rfl, hO, hB, hbx⟩ := hrel
    have HO := hid hO
    clear hO
    by_cases hlt : s < m.length
    · have hss : (s : Int) < m.length := by omega
      have hSt := (HO.out.stored s (.bool true)).1
      have hfun : Lb m.length (fun i => if i = s then true else decide (i < s)) = Lb m.length (fun i => decide (i < s + 1)) := Lb_congr fun i _ => by
        by_cases e : i = s
        · subst e; simp
        · rw [if_neg e]; simp; omega
      rw [← List.map_set_bool, Lb_set, hfun] at hSt
      have hcA := HO.out.cellAt s (by omega)
      rw [Lb_cell _ hlt] at hcA
      have hfA := HO.out.frozenAt s
      have HSt := hid hSt
      have hBs := hid (hB.setCell (p := ⟨w.heap.size + 1, s, none⟩) (by show w.heap.size ≤ w.heap.size + 1; omega) (.bool true))
      have hbxs : (wr.setCell ⟨w.heap.size + 1, s, none⟩ (.bool true)).cell? ⟨w.heap.size, 0, none⟩ = some (.slice A m.length cap) := (World.cell?_of_block (Below.heap_setCell _ _ _ _ (by simp))).trans hbx
      clear hSt hfun HO
      go_wp2_with fail
      go_roundw
      case rel => exact ⟨s + 1, by omega, by go_num, HSt.out, hBs.out, hbxs⟩
      case measure => simp [intOf]; omega
    · have hss : ¬ (s : Int) < m.length := by omega
      obtain rfl : s = m.length := by omega
      have hOs := HO.out
      rw [start_bits] at hOs
      have hlt0 := ownq_lt hOs
      have HOs := hid hOs
      clear hOs HO
      obtain ⟨wo, rfl⟩ : ∃ wo : World, wo = wr := ⟨_, rfl⟩
      go_wp2_with (at_make; go_must (refine wpList_make_full _ rfl _ _ 63 rfl wo.heap.size 4 j0 (.bool false) 1 Tryd.underlying63 hj hy0 hy1 .i64 .i64 _ _ N rfl rfl hshl hshl (by rw [hy2]; exact hN8) hNl (Nat.le_refl _) ?_); intro w3 hown hgrow; rw [show Value.cells (.bool false) = #[.bool false] from rfl, toList_madeCells_one, Nat.mul_one] at hown)
      clear hshl
      have hB3 := hid (btr hB ((Below.refl _ wo).grown hgrow (Nat.le_refl _) (fun q hq => by cases hq)))
      have hOs3 := owns_block HOs.out (hgrow.block _ hlt0.2 (by simp))
      have hbx3 : w3.cell? ⟨w.heap.size, 0, none⟩ = some (.slice A m.length cap) := (World.cell?_of_block (hgrow.block w.heap.size (by have := hB.size; have := World.block_lt_of_cell? _ _ hbx; simpa using this) (by simp))).trans hbx
      have hM3 : MetAt w3 wo.heap.size wo.heap.size m.length N [] := by
        unfold MetAt
        have e : ((Lb N (markF m.length [])).map fun x => Value.bool x) = List.replicate N (.bool false) := by
          apply List.ext_getElem
          · simp [Lb]
          · intro i h1 h2; simp [Lb, markF]
        rw [e]; exact hown
      have hs3 := hgrow.size
      have HOs3 := hid hOs3
      have hbl := bitL_len m.length (2 ^ m.length - 1)
      have hst := Bools.of_own (l := bitL m.length (2 ^ m.length - 1)) (by rw [hbl]; exact hOs3) (by rw [hbl]; unfold big; omega)
      have Hst := hid hst
      obtain ⟨c0, hc0⟩ : ∃ c, codeN m.length (2 ^ m.length - 1) = c := ⟨_, rfl⟩
      have hcN : c0 < N := codeN_bound HN.out hc0
      have hcNi : (c0 : Int) < N := by omega
      have HC0 := hid hc0
      have HM3 := hid hM3
      have hmf := hM3.free c0
      obtain ⟨b0, hmc⟩ : ∃ b, w3.cell? ⟨wo.heap.size, c0, none⟩ = some (.bool b) := ⟨_, (World.ownsRow.cellAt hM3 c0 (by omega)).trans (Lb_cell _ hcN)⟩
      have hmlt := hM3.lt
      clear hown hgrow hOs3 hst hM3 hc0 HOs hB hbx
      generalize hmb : wo.heap.size = mb at *
      go_wp2_with fail
      refine (rCode_as _ (bitL m.length (2 ^ m.length - 1)) c0 _ Hst.out (by rw [hbl]; exact h12) HC0).mono ?_
      rintro e w3' ⟨rfl, rfl⟩
      have hs4 : (w3.setCell ⟨mb, c0, none⟩ (.bool true)).heap.size = w3.heap.size := by simp [World.setCell]
      have HB5 := hid (bal ((hB3.out).setCell (p := ⟨mb, c0, none⟩) (by show w.heap.size ≤ mb; omega) (.bool true)) (.cells #[.slice (some ⟨w.heap.size + 1, 0, none⟩) m.length m.length, .slice none 0 0] 66))
      have hbx5 : ((w3.setCell ⟨mb, c0, none⟩ (.bool true)).alloc (.cells #[.slice (some ⟨w.heap.size + 1, 0, none⟩) m.length m.length, .slice none 0 0] 66)).cell? ⟨w.heap.size, 0, none⟩ = some (.slice A m.length cap) :=
        (World.cell?_of_block ((Below.heap_alloc _ _ _ (by rw [hs4]; show w.heap.size < w3.heap.size; omega)).trans (Below.heap_setCell _ _ _ _ (by simp; omega)))).trans hbx3
      have HMet5 := hid (show MetAt ((w3.setCell ⟨mb, c0, none⟩ (.bool true)).alloc (.cells #[.slice (some ⟨w.heap.size + 1, 0, none⟩) m.length m.length, .slice none 0 0] 66)) mb mb m.length N (BFm m 0) from
        (HM3.out.set HC0.out (-1) 0).kept (Below.heap_alloc _ _ _ (by rw [hs4]; exact hmlt.2)))
      have HL5 := hid (show LvlAt ((w3.setCell ⟨mb, c0, none⟩ (.bool true)).alloc (.cells #[.slice (some ⟨w.heap.size + 1, 0, none⟩) m.length m.length, .slice none 0 0] 66)) mb m.length (.slice (some ⟨w3.heap.size, 0, none⟩) 1 1) (segF m 0 (BFm m 0).length) from by
        rw [show (BFm m 0).length = 1 from rfl, segF_start hv]
        refine lvl_first (a := w.heap.size + 1) (by rw [← hs4]; exact World.alloc_heap_new _ _) (by omega) ?_
        refine BoolsP.own (n₀ := w.heap.size + 1) (owns_block HOs3.out ((Below.heap_alloc _ _ _ (by rw [hs4]; omega)).trans (Below.heap_setCell _ _ _ _ (by simp; omega)))) (bitL_len _ _) (by unfold big; omega) (by omega))
      have hs5 : mb < ((w3.setCell ⟨mb, c0, none⟩ (.bool true)).alloc (.cells #[.slice (some ⟨w.heap.size + 1, 0, none⟩) m.length m.length, .slice none 0 0] 66)).heap.size := by simp [World.setCell]; omega
      have hwmb : w.heap.size < mb := by omega
      go_wp2_with fail
      generalize (w3.setCell ⟨mb, c0, none⟩ (.bool true)).alloc (.cells #[.slice (some ⟨w.heap.size + 1, 0, none⟩) m.length m.length, .slice none 0 0] 66) = w5 at *
      clear hs4 hmf hmc hbx3 HOs3 Hst HM3 hB3 hlt0 hss hs3 hmlt hmb
      go_loopg [9] ((imgF m).length + 1) (fun k lv wr => ∃ lo, lo ≤ i0 ∧ lo + k = (imgF m).length + 1 ∧ LvlAt wr mb m.length lv (segF m lo (BFm m lo).length) ∧ MetAt wr mb mb m.length N (BFm m lo) ∧ Below w.heap.size w wr ∧ wr.cell? ⟨w.heap.size, 0, none⟩ = some (.slice A m.length cap))
      case atStart => exact ⟨0, Nat.zero_le _, by omega, HL5.out, HMet5.out, HB5.out, hbx5⟩
      case round =>
        clear HL5 HMet5 HB5 hbx5 hs5
        obtain ⟨lo, hlo, hgk, hL, hM, hB, hbx⟩ := hrel
        have hmore := BFm_more hv (Nat.lt_of_le_of_lt hlo hi0)
        have hBF := (BFm_good hv lo).len
        have hmo := hM.lt.2
        obtain ⟨hi, hhi⟩ : ∃ k, (BFm m lo).length = k := ⟨_, rfl⟩
        rw [hhi] at hL hmore
        obtain ⟨Ln, hLn⟩ : ∃ k, hi - lo = k := ⟨_, rfl⟩
        obtain ⟨A9, c9, rfl⟩ : ∃ A c, u9 = .slice A Ln c := by
          obtain ⟨A9, c9, hu, _⟩ := id hL
          exact ⟨A9, c9, by rw [hu, segF_len, hLn]⟩
        have HL := hid hL
        have HM := hid hM
        have Hhi := hid hhi
        have HLn := hid hLn
        have hLp : (0 : Int) < Ln := by omega
        have hLd : decide (0 < Ln) = true := decide_eq_true (by omega)
        have hLn0 : 0 < Ln := by omega
        have hLn4 : Ln ≤ 4096 := by have := HN.out; omega
        have Hgk := hid hgk
        clear hL hM hhi hLn hgk hBF hmore
        obtain ⟨wo, rfl⟩ : ∃ wo : World, wo = wr := ⟨_, rfl⟩
        go_wp2_with fail
        go_loopw [10, 11] (fun nv iv w1 => ∃ i : Nat, i ≤ Ln ∧ iv = .int .i64 i ∧ lo + i ≤ i0 ∧ MSets w1 wo.heap.size m.length nv (segF m hi (BFm m (lo + i)).length) ∧ MetAt w1 mb mb m.length N (BFm m (lo + i)) ∧ Below w.heap.size w w1 ∧ KK mb wo w1) (fun _ iv _ => Ln - (intOf iv).toNat)
        case atStart => exact ⟨0, Nat.zero_le _, rfl, by omega, by rw [Nat.add_zero, Hhi.out, segF_nil]; exact MSets.nil _ _ _, HM.out, hB, KK.refl _ _⟩
        case round =>
          obtain ⟨i, hiL, rfl, hii, hMS, hMet, hB1, hK1⟩ := hrel
          have HMS := hid hMS
          have HMet := hid hMet
          have HK1 := hid hK1
          clear hMS hMet hK1
          obtain ⟨j, hjj⟩ : ∃ j, lo + i = j := ⟨_, rfl⟩
          rw [hjj] at hii HMS HMet
          by_cases hlt2 : i < Ln
          · have his : (i : Int) < Ln := by omega
            have hisd : decide (i < Ln) = true := decide_eq_true hlt2
            have hjF : j < (imgF m).length := by omega
            obtain ⟨b, off, Ai, ci, Aw, cw, hA9, hbm, c1, c2, hE1, hE2, hnw⟩ := lvl_elem (HL.out.kk HK1.out) HLn.out hlt2
            subst hA9
            rw [hjj] at c2 hE1 hE2
            have hsz : cntL (bitL m.length (plN m j)) = szB (imgF m) j := cntL_bitL (plN_lt hv hjF) (by omega)
            have hw4 := imgF_len hv h12 hjF
            have Hjj := hid hjj
            have Hsz := hid hsz
            have HE1 := hid hE1
            have HE2 := hid hE2
            have HB1 := hid hB1
            have hS := plN_lt hv hjF
            clear hjj hsz hE1 hE2 hB1
            obtain ⟨wl, rfl⟩ : ∃ wl : World, wl = wr := ⟨_, rfl⟩
            by_cases hj0 : j = i0
            · subst hj0
              have hszm : szB (imgF m) j ≤ 64 := elems_length _
              generalize szB (imgF m) j = sz at *
              have d1 : decide ((sz : Int) ≤ most) = true := by simp; omega
              go_wp2_with fail
              refine (rCount_as _ (bitL m.length (plN m j)) sz _ HE1.out.bools (by rw [bitL_len]; omega) Hsz).mono ?_
              rintro e w' ⟨rfl, rfl⟩
              go_wp2_with fail
              go_ret2
              exact ⟨_, _, rfl, HE2.out.ints, HB1.out⟩
            · have hlw := Hlow.out j (by omega)
              have hjn := hid (show lo + (i + 1) ≤ i0 from by have := Hjj.out; omega)
              have hszm : szB (imgF m) j ≤ 64 := elems_length _
              generalize szB (imgF m) j = sz at *
              have d1 : decide ((sz : Int) ≤ most) = false := by simp; omega
              have d1n : decide (sz ≤ most) = false := by simp; omega
              have d1m : ¬ sz ≤ most := by omega
              go_wp2_with fail
              refine (rCount_as _ (bitL m.length (plN m j)) sz _ HE1.out.bools (by rw [bitL_len]; omega) Hsz).mono ?_
              rintro e w' ⟨rfl, rfl⟩
              go_wp2_with fail
              go_loopw [10, 12] (fun nv xv w2 => ∃ x : Nat, x ≤ letters m ∧ xv = .int .i64 x ∧ MSets w2 wo.heap.size m.length nv (segF m hi (RFm m j x).length) ∧ MetAt w2 mb mb m.length N (RFm m j x) ∧ Below w.heap.size w w2 ∧ KK mb wo w2) (fun _ xv _ => letters m - (intOf xv).toNat)
              case atStart => exact ⟨0, Nat.zero_le _, rfl, HMS.out, HMet.out, HB1.out, HK1.out⟩
              case round =>
                clear HMS HMet HB1 c1 c2 HE1 HE2
                obtain ⟨x, hxK, rfl, hMS, hMet, hB2, hK2⟩ := hrel
                obtain ⟨b', off', Ai', ci', Aw', cw', hA9', hbm', c1, c2, hE1, hE2, hnw'⟩ := lvl_elem (HL.out.kk hK2) HLn.out hlt2
                have e9 : (b' = b ∧ off' = off) := by
                  simp only [Option.some.injEq, Addr.mk.injEq, and_true] at hA9'
                  exact ⟨hA9'.1.symm, hA9'.2.symm⟩
                obtain ⟨rfl, rfl⟩ := e9
                rw [Hjj.out] at c2 hE1 hE2
                have HMS := hid hMS
                have HMet := hid hMet
                have HK2 := hid hK2
                have HE1 := hid hE1
                have HE2 := hid hE2
                have hbx2 := hK2.cell hbx (by show w.heap.size ≠ mb; omega)
                have hmo2 := hMet.lt.2
                clear hMS hMet hK2 hE1 hE2 hA9'
                have hr2 := h.below hB2
                obtain ⟨wi, rfl⟩ : ∃ wi : World, wi = wr := ⟨_, rfl⟩
                go_wp2_with fail
                refine (rLetters_any _ m _ hr2 hv).mono ?_
                rintro e y0 ⟨rfl, hy0⟩
                have e0 := (hy0.cell (p := ⟨w.heap.size, 0, none⟩) (World.block_lt_of_cell? _ _ hbx2)).trans hbx2
                have e1 := (hy0.cell (p := ⟨b', off' + i * 2, none⟩) (World.block_lt_of_cell? _ _ c1)).trans c1
                have e2 := (hy0.cell (p := ⟨b', off' + i * 2 + 1, none⟩) (World.block_lt_of_cell? _ _ c2)).trans c2
                have hr0 := hr2.below hy0
                have hbo0 := hid (HE1.out.bools.below hy0)
                have hB0 := btr hB2 hy0
                by_cases hxl : x < letters m
                · have hxs : (x : Int) < letters m := by omega
                  obtain ⟨T, hT⟩ : ∃ T, imgS m (plN m j) x = T := ⟨_, rfl⟩
                  have hTlt : T < 2 ^ m.length := by rw [← hT]; exact imgS_lt hv hS hxl
                  obtain ⟨c, hc⟩ : ∃ c, codeN m.length T = c := ⟨_, rfl⟩
                  have hcN := codeN_bound HN.out hc
                  have HT := hid hT
                  have HTl := hid hTlt
                  have HC := hid hc
                  have hcNi : (c : Int) < N := by omega
                  have hmv := fun w hh hu => rMove_any (.slice A m.length cap) (.slice Ai' m.length ci') m (plN m j) x w hh hv hu hS hxl
                  rw [hT] at hmv
                  have Hmv := hid hmv
                  clear hT hTlt hc hmv c1 c2 hbx2
                  go_wp2_with fail
                  go_region_held3 (fun w' => Below y0.heap.size y0 w' ∧ w'.cell? ⟨w.heap.size, 0, none⟩ = some (.slice A m.length cap) ∧ w'.cell? ⟨b', off' + i * 2, none⟩ = some (.slice Ai' m.length ci')) (exact held_pair e0 e1 (by first | exact below_dr y0 1 | assumption)) (first
                    | (go_at_call 42; go_must (refine (Hmv.out _ (hr0.below (by first | exact below_dr y0 1 | exact Below.refl _ _)) (hbo0.out.below (by first | exact below_dr y0 1 | exact Below.refl _ _))).mono ?_; rintro e y1 ⟨g, rfl, hog, hy1⟩; have kA : Below y0.heap.size y0 y1 := btr (by first | exact below_dr y0 1 | exact Below.refl _ _) hy1)))
                  have hB1 := btr hB0 kA
                  have b1 := btr hy0 kA
                  have hMS1 := HMS.out.kept (W' := y1) (fun b _ hs => b1.block b hs)
                  have hMet1 := HMet.out.kept (b1.block _ hmo2)
                  have hK1' := HK2.out.step b1
                  have d0 := (kA.cell (p := ⟨w.heap.size, 0, none⟩) (World.block_lt_of_cell? _ _ e0)).trans e0
                  have d2 := (kA.cell (p := ⟨b', off' + i * 2 + 1, none⟩) (World.block_lt_of_cell? _ _ e2)).trans e2
                  have hgl := ownq_lt hog
                  have hgb : wi.heap.size ≤ g := by have := hy0.size; have h5 := hgl.1; first | omega | (simp at h5; omega)
                  have hbT := Bools.of_own (l := bitL m.length T) (by rw [bitL_len]; exact hog) (by rw [bitL_len]; unfold big; omega)
                  have hpT := hid (fun (P : Nat → Prop) (hP : P g) => BoolsP.own (P := P) hog (bitL_len _ _) (by unfold big; omega) hP)
                  have hmc := hMet1.cell HN.out (show GoodB (2 ^ m.length) (RFm m j x) from (BFm_good hv j).row (BFm_more hv hjF) x (by omega) (fun y hy => by rw [BFm_place hv hjF]; exact imgS_lt hv hS (by omega))) HTl.out HC.out
                  have hmf := hMet1.free c
                  have HbT := hid hbT
                  have HMS1 := hid hMS1
                  have HMet1 := hid hMet1
                  have HK1' := hid hK1'
                  have hml1 := hMet1.lt.2
                  clear hMS1 hMet1 hK1' hbT hog hy1
                  go_wp2_with fail
                  refine (rCode_as _ (bitL m.length T) c _ HbT.out (by rw [bitL_len]; exact h12) HC).mono ?_
                  rintro e y1' ⟨rfl, rfl⟩
                  cases hhas : hasP (RFm m j x) T with
                  | true =>
                    rw [hhas] at hmc
                    have hRe : RFm m j (x + 1) = RFm m j x := by
                      rw [RFm_succ hv hjF, HT.out, hhas]; rfl
                    have HRe := hid hRe
                    clear hRe hhas
                    go_wp2_with fail
                    go_roundw
                    case rel => exact ⟨x + 1, by omega, by go_num, by rw [HRe.out]; exact HMS1.out, by rw [HRe.out]; exact HMet1.out, hB1, HK1'.out⟩
                    case measure => simp [intOf]; omega
                  | false =>
                    rw [hhas] at hmc
                    obtain ⟨n1, n2, n3, n4⟩ := new_step hv hjF hxl (by rw [HT.out]; exact hhas)
                    rw [HT.out] at n2 n4
                    have hhiR : hi ≤ (RFm m j x).length := by
                      have a1 := (BFm_le m (show lo ≤ j by have := Hjj.out; omega)).length_le
                      have a2 := (rowB_le (imgS m) (BFm m j) (plB (BFm m j) j).toNat j x 0).length_le
                      rw [Nat.zero_add] at a2
                      have a3 : (BFm m j).length ≤ (RFm m j x).length := a2
                      have a4 := Hhi.out
                      omega
                    have hseg : segF m hi (RFm m j (x + 1)).length = segF m hi (RFm m j x).length ++ [(T, wordB (imgF m) j ++ [(x : Int)])] := by
                      rw [n4, List.length_append, List.length_singleton, segF_snoc m hhiR, n2, n3]
                    have hRl := (RFm_pre hv hjF (show x ≤ letters m by omega)).length_le
                    have hLl : (segF m hi (RFm m j x).length).length ≤ 4096 := by rw [segF_len]; omega
                    have Hseg := hid hseg
                    have Hn4 := hid n4
                    clear n1 n2 n3 n4 hseg hhas hhiR hRl
                    obtain ⟨L, hLe⟩ : ∃ L, segF m hi (RFm m j x).length = L := ⟨_, rfl⟩
                    obtain ⟨R, hRe⟩ : ∃ R, RFm m j x = R := ⟨_, rfl⟩
                    rw [hLe] at hLl Hseg HMS1 HMS
                    rw [hRe] at Hn4 HMet1
                    obtain ⟨N10, c10, rfl, hblk⟩ := HMS.out.slice
                    have hW0 := HE2.out
                    obtain ⟨W0, hWe⟩ : ∃ W0, wordB (imgF m) j = W0 := ⟨_, rfl⟩
                    rw [hWe] at hw4 d2 hW0 Hseg
                    have hW2 := hid ((hW0.kept (W' := y1) (P' := fun _ => True) (fun b _ hs => b1.block b hs) (fun _ _ _ => trivial)).ints)
                    have HWe := hid hWe
                    clear hW0 hLe hRe hWe
                    go_wp2_with fail
                    refine (rCode_as _ (bitL m.length T) c _ HbT.out (by rw [bitL_len]; exact h12) HC).mono ?_
                    rintro e y1' ⟨rfl, rfl⟩
                    have hys : (y1.setCell ⟨mb, c, none⟩ (.bool true)).heap.size = y1.heap.size := by simp [World.setCell]
                    have hyb : ∀ b, b ≠ mb → (y1.setCell ⟨mb, c, none⟩ (.bool true)).heap[b]? = y1.heap[b]? := fun b hb => Below.heap_setCell _ _ _ _ (by simpa using hb)
                    have f2 : ((y1.setCell ⟨mb, c, none⟩ (.bool true)).alloc (.cells #[] 3)).cell? ⟨b', off' + i * 2 + 1, none⟩ = some (.slice Aw' W0.length cw') := (World.cell?_of_block ((Below.heap_alloc _ _ _ (by rw [hys]; exact World.block_lt_of_cell? _ _ d2)).trans (hyb b' hbm'))).trans d2
                    have HE0 := hid (own_empty (y1.setCell ⟨mb, c, none⟩ (.bool true)) y1.heap.size hys.symm)
                    have HW3 := hid (show Ints ((y1.setCell ⟨mb, c, none⟩ (.bool true)).alloc (.cells #[] 3)) (.slice Aw' W0.length cw') W0 from by
                      have k := ((HE2.out.kept (W' := y1) (P' := fun b => b ≠ mb) (fun b _ hs => b1.block b hs) (fun _ h _ => h)).kept (W' := (y1.setCell ⟨mb, c, none⟩ (.bool true)).alloc (.cells #[] 3)) (P' := fun b => b ≠ mb) (fun b hb hs => (Below.heap_alloc _ _ _ (by rw [hys]; exact hs)).trans (hyb b hb)) (fun _ h _ => h)).ints
                      rw [HWe.out] at k
                      exact k)
                    have hyB : Below y1.heap.size (y1.setCell ⟨mb, c, none⟩ (.bool true)) ((y1.setCell ⟨mb, c, none⟩ (.bool true)).alloc (.cells #[] 3)) := (Below.refl _ _).alloc (Nat.le_of_eq hys.symm) _
                    have hoi := HK2.out.1
                    have hiy := b1.size
                    have Hyb := hid hyb
                    have hW4 : W0.length ≤ 4096 := hw4
                    clear hyb hw4 hW2
                    go_wp2_with (first
                      | (at_builtin; refine wpList_append_list rfl _ _ rfl y1.heap.size 0 (.slice (some ⟨y1.heap.size, 0, none⟩) 0 0) [] Aw' cw' W0 rfl HE0.out rfl hnw' HW3.out (by simp [World.setCell]) (by omega) ?_; intro v1 w5 ho1 hb5; rw [Nat.zero_add, List.nil_append] at ho1; obtain ⟨V1, k1, rfl⟩ := ownsRow_slice ho1; have hs5 := hb5.size; have hs5' : y1.heap.size ≤ w5.heap.size := (by simp [World.setCell] at hs5; omega); have HO1 := hid ho1; clear ho1)
                      | (at_builtin; refine wpList_append_own_at _ rfl _ _ 25 rfl y1.heap.size 3 k0 (.int .i64 0) 1 8 Tryd.underlying25 hk kz0 kz1 kz2 rfl (by decide) (.slice V1 W0.length k1) W0.length (W0.map fun x => .int .i64 x) rfl (HO1.out.alloc _) ⟨w5.heap.size, 0, none⟩ 1 1 [.int .i64 x] rfl rfl (cell_one_new _ _ _) (by simp [Value.oneCell']) (by unfold maxLen; omega) (by omega) (by simp; omega) ?_; intro v2 w6 ho2 hg2 _ hat2; obtain ⟨V2, k2, rfl⟩ := ownsRow_slice ho2; have HO2 := hid ho2; have HB56 := hid (((Below.refl y1.heap.size w5).alloc hs5' _).grown hg2 (by simp; omega) (fun q hq => (HO1.out.lt q hq).1)); have HB5' := hid (hyB.trans hb5); clear ho2 hg2 hat2)
                      | (at_builtin; go_must (refine wpList_append_sets rfl _ _ rfl wo.heap.size m.length (.slice N10 L.length c10) (.slice (some ⟨g, 0, none⟩) m.length m.length) (.slice V2 (W0.length + 1) k2) L (T, W0 ++ [(x : Int)]) 66 w6 (by rfl) w6.heap.size rfl (by rfl) (HMS1.out.kept (fun b hb hs => ((HB5'.out.trans HB56.out).block b hs).trans (Hyb.out b (by omega)))) (by rfl) ⟨(hpT.out (fun b => wo.heap.size ≤ b ∧ some b ≠ (Value.slice N10 L.length c10).ownBlock) ⟨by omega, fun e => by have := (hblk g e.symm).2; omega⟩).kept (fun b hP hs => ((HB5'.out.trans HB56.out).block b hs).trans (Hyb.out b (by have := hP.1; omega))) (fun _ h _ => h), IntsP.own (n₀ := y1.heap.size) (by rw [List.map_append]; exact HO2.out) (by simp) (by unfold big; omega) (fun q hq => by have h1 := (HO2.out.lt q hq).1; exact ⟨by omega, fun e => by have := (hblk q e.symm).2; omega⟩)⟩ (by have := HB56.out.size; omega) (by omega) ?_; intro A7 k7 w7 hM7 hB7 hs7; have HM7 := hid hM7; have HF := hid (first_new (T := T) (x := (x : Int)) (i := (j : Int)) HMet1.out HC.out (by omega) hmo hB1 HK1'.out HB5'.out HB56.out hB7); clear hM7 hB7 hs7)))
                    go_roundw
                    case rel => exact ⟨x + 1, by omega, by go_num, by rw [Hseg.out]; exact HM7.out, by rw [Hn4.out]; exact HF.out.1, HF.out.2.1, HF.out.2.2⟩
                    case measure => simp [intOf]; omega
                · have hxs : ¬ (x : Int) < letters m := by omega
                  obtain rfl : x = letters m := by omega
                  have hjs := BFm_succ (BFm_more hv hjF)
                  have HMS0 := hid (HMS.out.kept (W' := y0) (fun b _ hs => hy0.block b hs))
                  have HMet0 := hid (HMet.out.kept (hy0.block _ hmo2))
                  rw [← hjs] at HMS0 HMet0
                  have HK0 := hid (HK2.out.step hy0)
                  clear hjs
                  go_wp2_with fail
                  go_roundw
                  case rel => exact ⟨i + 1, by omega, by go_num, hjn.out, by rw [← Nat.add_assoc, Hjj.out]; exact HMS0.out, by rw [← Nat.add_assoc, Hjj.out]; exact HMet0.out, hB0, HK0.out⟩
                  case measure => simp [intOf]; omega
          · have his : ¬ (i : Int) < Ln := by omega
            obtain rfl : i = Ln := by omega
            have hjhi : j = hi := by have := HLn.out; omega
            subst hjhi
            have HL2 := hid (HMS.out.lvl (mb := mb) hmo)
            have hbxr := HK1.out.cell hbx (by show w.heap.size ≠ mb; omega)
            go_wp2_with fail
            go_roundg ((imgF m).length + 1 - j)
            case measure => have := Hgk.out; omega
            case rel => exact ⟨j, hii, by omega, HL2.out, HMet.out, hB1, hbxr⟩
end Go.Proofs.YtiiiinoappjhdaaDoor
namespace Go.Proofs.YtiiiinoappjhdaaDoor
open Go.RowKit Go.Shelf
set_option maxRecDepth 100000 in
set_option maxHeartbeats 1000000 in
theorem rWord_no (v : Value) (m : List (List Int)) (p q n₀ g c : Nat) (B : Nat → Nat) (w : World) (h : Rows w v m) (hv : validM m = true) (hp : p < m.length) (hq : q < m.length)
    (hT : Tbl w n₀ (.slice (some ⟨g, 0, none⟩) m.length c) m.length m.length B (mlen m)) (hno : mlen m p q = -1) :
    Calls Tryd.prog 44 #[.agg #[v], .slice (some ⟨g, 0, none⟩) m.length c, .int .i64 p, .int .i64 q] w fun e w' => e = .returned (.tuple #[.slice none 0 0, .bool false]) ∧ Below w.heap.size w w' := by
  obtain ⟨p1, p2, p3, p4, -⟩ := valid_parts hv
  obtain ⟨A, cap, rfl, hml, -⟩ := id h
  have hX := bal (Below.refl _ w) (.cells #[.slice A m.length cap] 24)
  have hTX := hT.below hX
  have hc1 := hTX.cell hp
  have hc2 := hTX.num hp hq
  rw [hno] at hc2
  have hps : (p : Int) < m.length := by omega
  have hqs : (q : Int) < m.length := by omega
  clear hT hTX
  go_enter Tryd.func44, Tryd.ntmps44
  go_wp2
  go_ret2
  exact ⟨rfl, hX⟩
end Go.Proofs.YtiiiinoappjhdaaDoor
namespace Go.Proofs.YtiiiinoappjhdaaDoor
open Go.RowKit Go.Shelf
theorem cells_four {w w' : World} {a1 a2 a3 a4 : Addr} {u1 u2 u3 u4 : Value} (hb : Below w.heap.size w w') (c1 : w.cell? a1 = some u1) (c2 : w.cell? a2 = some u2) (c3 : w.cell? a3 = some u3) (c4 : w.cell? a4 = some u4) : w'.cell? a1 = some u1 ∧ w'.cell? a2 = some u2 ∧ w'.cell? a3 = some u3 ∧ w'.cell? a4 = some u4 :=
  have k := fun (a : Addr) (u : Value) (c : w.cell? a = some u) => (hb.cell (p := a) (World.block_lt_of_cell? _ _ c)).trans c
  ⟨k _ _ c1, k _ _ c2, k _ _ c3, k _ _ c4⟩
theorem word_grown {w y w5 : World} {sv bx : Value} {o : Obj} (hB : Below w.heap.size w y) (hlt : ∀ q, sv.ownBlock = some q → w.heap.size + 1 ≤ q) (hbx : y.cell? ⟨w.heap.size, 0, none⟩ = some bx) (hg : (y.alloc o).grownBy w5 sv.ownBlock) :
    Below w.heap.size w w5 ∧ w5.cell? ⟨w.heap.size, 0, none⟩ = some bx := by
  have k3 := World.block_lt_of_cell? _ _ hbx
  simp only at k3
  exact ⟨(bal hB o).grown hg (by have := hB.size; simp; omega) (fun k hk => by have := hlt k hk; omega),
    (World.cell?_of_block (a := ⟨w.heap.size, 0, none⟩) ((hg.block w.heap.size (by simp; omega) (fun e => by have := hlt _ e.symm; omega)).trans (Below.heap_alloc _ _ _ k3))).trans hbx⟩
set_option maxRecDepth 100000 in
set_option maxHeartbeats 8000000 in
theorem rWord_yes (v : Value) (m : List (List Int)) (p q j n₀ g c : Nat) (B : Nat → Nat) (w : World) (h : Rows w v m) (hv : validM m = true) (hp : p < m.length) (hq : q < m.length)
    (hT : Tbl w n₀ (.slice (some ⟨g, 0, none⟩) m.length c) m.length m.length B (mlen m)) (hd : mdist m p q j) :
    Calls Tryd.prog 44 #[.agg #[v], .slice (some ⟨g, 0, none⟩) m.length c, .int .i64 p, .int .i64 q] w fun e w' => ∃ r, e = .returned (.tuple #[r, .bool true]) ∧ w'.ownsRow w.heap.size 3 1 r j ((mW m j p q).map fun x => .int .i64 x) ∧ Below w.heap.size w w' := by
  obtain ⟨i0, hi, hz0, hz1, hz2⟩ := info_parts infoIntE
  obtain ⟨p1, p2, p3, p4, p5⟩ := valid_parts hv
  obtain ⟨A, cap, rfl, hml, hcm⟩ := id h
  have Hcm := hid hcm
  have Hp5 := hid p5
  have hX := bal (Below.refl _ w) (.cells #[.slice A m.length cap] 24)
  have hbx := (Boxed.new w 24 (.slice A m.length cap)).cell
  have hXs : (w.alloc (.cells #[.slice A m.length cap] 24)).heap.size = w.heap.size + 1 := World.size_alloc _ _
  have hTX := hT.below hX
  have hc1 := hTX.cell hp
  have hc2 := hTX.num hp hq
  have hlj := mlen_of hv hp hq hd
  rw [hlj] at hc2
  have hps : (p : Int) < m.length := by omega
  have hqs : (q : Int) < m.length := by omega
  have hj := mdist_lt hv hp hq hd
  have hmm60 : m.length * m.length ≤ 3600 := Nat.mul_le_mul (show m.length ≤ 60 by omega) (show m.length ≤ 60 by omega)
  have hnn : ¬ (j : Int) < 0 := by omega
  have Hd := hid hd
  have HT := hid (fun (w' : World) (hb : Below w.heap.size w w') => hT.below hb)
  clear hT hTX hcm p5 hd hlj
  go_enter Tryd.func44, Tryd.ntmps44
  go_wp2_with fail
  generalize hWX : w.alloc (.cells #[.slice A m.length cap] 24) = X at *
  clear hWX
  go_loopw [2, 3, 10] (fun av bv sv wr => ∃ (a b r : Nat) (pre : List Int), a < m.length ∧ b < m.length ∧ av = .int .i64 (a : Nat) ∧ bv = .int .i64 (b : Nat) ∧ mdist m a b r ∧ mW m j p q = pre ++ mW m r a b ∧ pre.length + r = j ∧ wr.ownsRow (w.heap.size + 1) 3 1 sv pre.length (pre.map fun x => .int .i64 x) ∧ Below w.heap.size w wr ∧ wr.cell? ⟨w.heap.size, 0, none⟩ = some (.slice A m.length cap)) (fun _ _ sv _ => j - sliceLen sv)
  case atStart => exact ⟨p, q, j, [], hp, hq, rfl, rfl, Hd.out, rfl, by simp, World.ownsRow_nil _ _ _ _, hX, hbx⟩
  case round =>
    clear hX hbx hXs hc1 hc2
    obtain ⟨a, b, r, pre, ha, hb, rfl, rfl, hd, hmw, hpl, hO, hB, hbx⟩ := hrel
    have has : (a : Int) < m.length := by omega
    have hbs : (b : Int) < m.length := by omega
    have Hmw := hid hmw
    have hd0 := hid hd
    obtain ⟨sA, scap, rfl⟩ := ownsRow_slice hO
    have HO := hid hO
    have hpl2 := hid hpl
    have hprj : pre.length ≤ 3600 := by omega
    have hrj : r ≤ 3600 := by omega
    have hlenr := mlen_of hv ha hb hd
    have hTr := HT.out _ hB
    have hc1 := hTr.cell ha
    have hc2 := hTr.num ha hb
    rw [hlenr] at hc2
    by_cases hr : r = 0
    · subst hr
      have HR := hid (show wr.ownsRow w.heap.size 3 1 (.slice sA pre.length scap) j ((mW m j p q).map fun x => .int .i64 x) from by
        rw [Hmw.out, show mW m 0 a b = [] from rfl, List.append_nil]
        have e : pre.length = j := by have := hpl2.out; omega
        rw [← e]
        exact row_mono hO (by omega))
      clear hmw hd hpl hO hlenr hTr
      go_wp2_with fail
      go_ret2
      exact ⟨_, rfl, HR.out, hB⟩
    · have hr0 : (0 : Int) < r := by omega
      obtain ⟨r', rfl⟩ : ∃ r', r = r' + 1 := ⟨r - 1, by omega⟩
      obtain ⟨x1, x2, x3, x4⟩ := mX_spec hv ha hb hd
      have X2 := hid x2
      have X3 := hid x3
      have X4 := hid x4
      have Hms := hid (show mW m (r' + 1) a b = (mX m a b : Int) :: mW m r' (nx m a (mX m a b : Int)) (nx m b (mX m a b : Int)) from rfl)
      have Hlenr := hid hlenr
      clear hmw hd hpl hO x2 x3 x4 hlenr hTr
      obtain ⟨wo, rfl⟩ : ∃ wo : World, wo = wr := ⟨_, rfl⟩
      go_wp2_with fail
      go_loopw [11] (fun xv wr => ∃ x : Nat, x ≤ mX m a b ∧ xv = .int .i64 (x : Nat) ∧ Below wo.heap.size wo wr) (fun xv _ => letters m - (intOf xv).toNat)
      case atStart => exact ⟨0, Nat.zero_le _, rfl, Below.refl _ _⟩
      case round =>
        obtain ⟨x, hx, rfl, hBi⟩ := hrel
        have hxl : x < letters m := by omega
        have hxs : (x : Int) < letters m := by omega
        have hBw := btr hB hBi
        have hbx2 := (hBi.cell (p := ⟨w.heap.size, 0, none⟩) (World.block_lt_of_cell? _ _ hbx)).trans hbx
        have hTi := HT.out _ hBw
        obtain ⟨b1, o1, r1, hA, hcell, hrow⟩ := Hcm.out a ha
        subst hA
        have hrl := (Hp5.out a ha).1
        obtain ⟨Ar, capr, rfl, -, hcr⟩ := id hrow
        rw [hrl] at hcell
        obtain ⟨br, offr, hAr, hct⟩ := hcr x (by omega)
        subst hAr
        obtain ⟨hn1, hn⟩ := nx_ok hv (s := a) ha (x := (x : Int)) (by omega) (by omega)
        rw [Int.toNat_natCast] at hn
        rw [hn] at hct
        have hcell2 := (hBw.cell (p := ⟨b1, o1 + a, none⟩) (World.block_lt_of_cell? _ _ hcell)).trans hcell
        have hct2 := (hBw.cell (p := ⟨br, offr + x, none⟩) (World.block_lt_of_cell? _ _ hct)).trans hct
        obtain ⟨b2, o2, r2, hA2, hcellq, hrowq⟩ := Hcm.out b hb
        cases hA2
        have hrlq := (Hp5.out b hb).1
        obtain ⟨Aq, capq, rfl, -, hcq⟩ := id hrowq
        rw [hrlq] at hcellq
        obtain ⟨bq, offq, hAq, hctq⟩ := hcq x (by omega)
        subst hAq
        obtain ⟨hn2, hqn⟩ := nx_ok hv (s := b) hb (x := (x : Int)) (by omega) (by omega)
        rw [Int.toNat_natCast] at hqn
        rw [hqn] at hctq
        have hcellq2 := (hBw.cell (p := ⟨b1, o1 + b, none⟩) (World.block_lt_of_cell? _ _ hcellq)).trans hcellq
        have hctq2 := (hBw.cell (p := ⟨bq, offq + x, none⟩) (World.block_lt_of_cell? _ _ hctq)).trans hctq
        have e1 := hTi.cell hn1
        have e2 := hTi.num hn1 hn2
        have e3 := hTi.cell ha
        have e4 := hTi.num ha hb
        rw [Hlenr.out] at e4
        have hrg := mlenAt_range m (m.length * m.length) (nx m a (x : Int)) (nx m b (x : Int))
        have hds : ((nx m a (x : Int) : Nat) : Int) < m.length := by omega
        have hds2 : ((nx m b (x : Int) : Nat) : Int) < m.length := by omega
        have HC := hid (fun (w' : World) (hb : Below w.heap.size w w') => cells_four hb hcell hct hcellq hctq)
        have HBi := hid hBi
        have HBw := hid hBw
        clear hcr hrow hn hrl hcell hct hcq hrowq hqn hrlq hcellq hctq hTi hbx hc1 hc2 hBi hBw
        by_cases hxe : x = mX m a b
        · have hml : mlen m (nx m a (x : Int)) (nx m b (x : Int)) = (r' : Int) := by
            have := X3.out
            rw [← hxe] at this
            rw [this, Hlenr.out]
            omega
          rw [hml] at e2
          have Hxe := hid hxe
          have HX2 := hid (show mdist m (nx m a (x : Int)) (nx m b (x : Int)) r' from by rw [hxe]; exact X2.out)
          have HM2 := hid (show mW m (r' + 1) a b = (x : Int) :: mW m r' (nx m a (x : Int)) (nx m b (x : Int)) from by rw [Hms.out, hxe])
          clear hml hxe hrg
          generalize nx m a (x : Int) = d at *
          generalize nx m b (x : Int) = d' at *
          go_wp2_with fail
          go_quiet (fail)
          have hOz := hid (fun (w5 : World) (hb5 : Below wo.heap.size wo w5) => (ownsRow_same HO.out fun q hq => hb5.block q (HO.out.lt q hq).2).alloc (.cells #[.int .i64 x] 3))
          have hBn := hid (btr HBi.out (below_dr wr nq))
          have hBwn := hid (btr hB hBn.out)
          have hlt6 := hid (fun q hq => (HO.out.lt q hq).1)
          have hsz := hBwn.out.size
          have hbxl := World.block_lt_of_cell? _ _ hbx2
          have HBX := hid hbx2
          simp only at hbxl
          have Hgr := hid (fun (w5 : World) (o : Obj) (hg : ((wr.drewN nq).alloc o).grownBy w5 (Value.slice sA pre.length scap).ownBlock) => word_grown hBwn.out hlt6.out (show (wr.drewN nq).cell? ⟨w.heap.size, 0, none⟩ = _ from HBX.out) hg)
          go_wp2_with (at_builtin; refine wpList_append_own_at _ rfl _ _ 25 rfl (w.heap.size + 1) 3 i0 (.int .i64 0) 1 8 Tryd.underlying25 hi hz0 hz1 hz2 rfl (by decide) _ _ _ rfl (hOz.out _ hBn.out) ⟨wr.heap.size, 0, none⟩ 1 1 [.int .i64 x] rfl rfl (one_new _ _ _ _ rfl) (by simp [Value.oneCell']) (by unfold maxLen; omega) (by omega) (by simp; omega) ?_; intro v' w5 hown' hgrow' _ hat; obtain ⟨vA, vcap, rfl⟩ := ownsRow_slice hown'; obtain ⟨q1, q2⟩ := Hgr.out w5 _ hgrow'; obtain ⟨s1, s2, s3, s4⟩ := HC.out _ q1; have HN := hid hown'; have HQ := hid q1; have HQ2 := hid q2; clear q1 hown' hgrow' hat)
          go_quiet (fail)
          go_wp2
          go_roundw
          case rel =>
            refine ⟨d, d', r', pre ++ [(x : Int)], hn1, hn2, rfl, rfl, HX2.out, by rw [Hmw.out, HM2.out, List.append_assoc]; rfl, by have := hpl2.out; rw [List.length_append, List.length_singleton]; omega, ?_, btr HQ.out (below_dr w5 _), HQ2.out⟩
            rw [List.length_append, List.map_append]
            exact HN.out
          case measure => have := hpl2.out; simp [sliceLen]; omega
        · have hlt : x < mX m a b := by omega
          have hne : (mlen m (nx m a (x : Int)) (nx m b (x : Int)) != (r' : Int)) = true := by
            have := X4.out x hlt
            rw [Hlenr.out] at this
            simp
            omega
          clear hxe
          generalize mlen m (nx m a (x : Int)) (nx m b (x : Int)) = z at *
          generalize nx m a (x : Int) = d at *
          generalize nx m b (x : Int) = d' at *
          go_wp2_with fail
          go_quiet (fail)
          go_wp2
          go_roundw
          case rel => exact ⟨x + 1, by omega, by go_num, btr HBi.out (below_dr wr nq)⟩
          case measure => simp [intOf]; omega
end Go.Proofs.YtiiiinoappjhdaaDoor
namespace Go.Proofs.YtiiiinoappjhdaaDoor
open Go.RowKit Go.Shelf
theorem Ints.off {W : World} {b o n c k o' : Nat} {l : List Int} {x : Value} (h : Ints W (.slice (some ⟨b, o, none⟩) n c) l) (hk : b ≠ k) : Ints (W.setCell ⟨k, o', none⟩ x) (.slice (some ⟨b, o, none⟩) n c) l := by
  obtain ⟨A, cap, hv, hl, hc⟩ := h
  refine ⟨A, cap, hv, hl, fun i hi => ?_⟩
  obtain ⟨b', off, hA, hcell⟩ := hc i hi
  refine ⟨b', off, hA, ?_⟩
  simp only [Value.slice.injEq] at hv
  rw [← hv.1] at hA
  simp only [Option.some.injEq, Addr.mk.injEq, and_true] at hA
  obtain ⟨rfl, rfl⟩ := hA
  exact (World.cell?_of_block (Below.heap_setCell _ _ _ _ hk)).trans hcell
/-- The rows of a table that is being made, each of two numbers: the first k are there. -/
def rowsC (n k : Nat) (B : Nat → Nat) : List Value := (List.range n).map fun p => if p < k then .slice (some ⟨B p, 0, none⟩) 2 2 else .slice none 0 0
structure RTb (W : World) (n₀ g n k : Nat) (B : Nat → Nat) (f : Nat → List Int) : Prop where
  outer : W.ownsRow n₀ 25 1 (.slice (some ⟨g, 0, none⟩) n n) n (rowsC n k B)
  inner : ∀ p, p < k → Ints W (.slice (some ⟨B p, 0, none⟩) 2 2) (f p)
  apart : ∀ p, p < k → B p ≠ g ∧ n₀ ≤ B p
section
variable {W W' : World} {n₀ g n k : Nat} {B : Nat → Nat} {f : Nat → List Int}
theorem RTb.new (h : W.ownsRow n₀ 25 1 (.slice (some ⟨g, 0, none⟩) n n) n (List.replicate n (.slice none 0 0))) : RTb W n₀ g n 0 B f := by
  refine ⟨?_, fun p hp => by omega, fun p hp => by omega⟩
  have e : rowsC n 0 B = List.replicate n (.slice none 0 0) := by
    apply List.ext_getElem
    · simp [rowsC]
    · intro i h1 h2; simp [rowsC]
  rw [e]; exact h
theorem RTb.below (h : RTb W n₀ g n k B f) (hb : Below W.heap.size W W') : RTb W' n₀ g n k B f :=
  ⟨owns_kept h.outer fun b _ hs => hb.block b hs, fun p hp => (h.inner p hp).below hb, h.apart⟩
theorem RTb.lt (h : RTb W n₀ g n k B f) : n₀ ≤ g ∧ g < W.heap.size := ownq_lt h.outer
/-- A row is stored: the next one, or in the place of one that was there. -/
theorem RTb.row {p b k' : Nat} {l : List Int} (h : RTb W n₀ g n k B f) (hp : p ≤ k) (hk' : k' = if p = k then k + 1 else k) (hb : b ≠ g ∧ n₀ ≤ b) (hl : Ints W (.slice (some ⟨b, 0, none⟩) 2 2) l) :
    RTb (W.setCell ⟨g, p, none⟩ (.slice (some ⟨b, 0, none⟩) 2 2)) n₀ g n k' (fun i => if i = p then b else B i) (fun i => if i = p then l else f i) := by
  obtain ⟨s1, -⟩ := h.outer.stored p (.slice (some ⟨b, 0, none⟩) 2 2)
  have hlt : ∀ i, i < k' → i ≠ p → i < k := fun i hi hne => by
    by_cases e : p = k
    · rw [if_pos e] at hk'; omega
    · rw [if_neg e] at hk'; omega
  refine ⟨?_, fun i hi => ?_, fun i hi => ?_⟩
  · refine cast ?_ s1
    congr 1
    apply List.ext_getElem
    · simp [rowsC]
    · intro i h1 h2
      rw [List.getElem_set]
      by_cases e : p = i
      · subst e
        have : p < k' := by
          by_cases e2 : p = k
          · rw [if_pos e2] at hk'; omega
          · rw [if_neg e2] at hk'; omega
        simp [rowsC, this]
      · rw [if_neg e]
        simp only [rowsC, List.getElem_map, List.getElem_range]
        have e' : ¬ i = p := fun h => e h.symm
        simp only [e', if_false]
        by_cases e2 : i < k
        · rw [if_pos e2, if_pos (by
            by_cases e3 : p = k
            · rw [if_pos e3] at hk'; omega
            · rw [if_neg e3] at hk'; omega)]
        · rw [if_neg e2, if_neg (fun h3 => e2 (hlt i h3 e'))]
  · by_cases e : i = p
    · subst e; simp only [if_true]; exact hl.off hb.1
    · simp only [if_neg e]; exact (h.inner i (hlt i hi e)).off (h.apart i (hlt i hi e)).1
  · by_cases e : i = p
    · subst e; simp only [if_true]; exact hb
    · simp only [if_neg e]; exact h.apart i (hlt i hi e)
theorem RTb.other {c : Nat} {u : Value} (h : RTb W n₀ g n k B f) (hc : c < n₀) : RTb (W.setCell ⟨c, 0, none⟩ u) n₀ g n k B f :=
  ⟨owns_block h.outer (Below.heap_setCell _ _ _ _ (by have := h.lt; simp; omega)), fun p hp => (h.inner p hp).off (by have := (h.apart p hp).2; omega), h.apart⟩
theorem RTb.cell (h : RTb W n₀ g n k B f) {p : Nat} (hp : p < n) : W.cell? ⟨g, p, none⟩ = some (if p < k then .slice (some ⟨B p, 0, none⟩) 2 2 else .slice none 0 0) := by
  rw [h.outer.cellAt p (by omega)]
  simp [rowsC, List.getElem?_map, List.getElem?_range hp]
theorem RTb.free (h : RTb W n₀ g n k B f) (p : Nat) : W.frozen? ⟨g, p, none⟩ = false := h.outer.frozenAt p
theorem RTb.rows (h : RTb W n₀ g n n B f) (hn : n ≤ 1000) : Rows W (.slice (some ⟨g, 0, none⟩) n n) ((List.range n).map f) := by
  refine ⟨some ⟨g, 0, none⟩, n, by simp, by unfold big; simp; omega, fun i hi => ?_⟩
  simp only [List.length_map, List.length_range] at hi
  refine ⟨g, 0, .slice (some ⟨B i, 0, none⟩) 2 2, rfl, ?_, ?_⟩
  · rw [Nat.zero_add, h.cell hi, if_pos hi]
  · have e : ((List.range n).map f).getD i [] = f i := by simp [List.getD_eq_getElem?_getD, List.getElem?_map, List.getElem?_range hi]
    rw [e]; exact h.inner i hi
end
/-- The automaton of n states. -/
def cernyM (n : Nat) : List (List Int) := (List.range n).map fun s : Nat => if s = n - 1 then [0, 0] else [((s : Int) + 1), (s : Int)]
set_option maxRecDepth 100000 in
set_option maxHeartbeats 2000000 in
theorem Cerny_any (n : Nat) (w : World) (h2 : 2 ≤ n) (h60 : n ≤ 60) :
    Calls Tryd.prog 19 #[.int .i64 n] w fun e w' => ∃ r, e = .returned (.tuple #[.agg #[r], .int .i64 0]) ∧ Rows w' r (cernyM n) ∧ Below w.heap.size w w' := by
  obtain ⟨i0, hi, hz0, hz1, hz2⟩ := info_parts infoRows
  have hX := bal (Below.refl _ w) (.cells #[.slice none 0 0] 24)
  have q1 := Boxed.new w 24 (.slice none 0 0)
  have hXs : (w.alloc (.cells #[.slice none 0 0] 24)).heap.size = w.heap.size + 1 := by simp
  have d1 : decide ((n : Int) < 2) = false := by simp; omega
  have d2 : decide ((60 : Int) < n) = false := by simp; omega
  go_enter Tryd.func19, Tryd.ntmps19
  go_wp2_with (at_make; go_must (refine wpList_make_full _ rfl _ _ 22 rfl (w.heap.size + 1) 25 i0 (.slice none 0 0) 1 Tryd.underlying22 hi hz0 hz1 .i64 .i64 _ _ n rfl rfl rfl rfl (by rw [hz2]; omega) (by unfold maxLen; omega) (by simp) ?_); intro w1 hown hgrow; rw [show Value.cells (.slice none 0 0) = #[.slice none 0 0] from rfl, toList_madeCells_one, Nat.mul_one] at hown)
  have hB1 := hX.grown hgrow (by simp) (fun q hq => by cases hq)
  have b1 : Boxed w1 w.heap.size 24 (.slice none 0 0) := (hgrow.block w.heap.size (by simp) (by simp)).trans q1
  have hT0 : RTb w1 (w.heap.size + 1) (w.heap.size + 1) n 0 (fun _ => 0) (fun s : Nat => [((s : Int) + 1), (s : Int)]) := RTb.new (by simpa using hown)
  have HB1 := hid hB1
  have Hb1 := hid b1
  have HT0 := hid hT0
  clear hown hgrow hB1 b1 hT0 hX q1
  go_loopw [17] (fun sv wr => ∃ (s : Nat) (B : Nat → Nat), s ≤ n ∧ sv = .int .i64 s ∧ RTb wr (w.heap.size + 1) (w.heap.size + 1) n s B (fun s : Nat => [((s : Int) + 1), (s : Int)]) ∧ Below w.heap.size w wr ∧ Boxed wr w.heap.size 24 (.slice none 0 0)) (fun sv _ => n - (intOf sv).toNat)
  case atStart => exact ⟨0, _, Nat.zero_le _, rfl, HT0.out, HB1.out, Hb1.out⟩
  case round =>
    clear HT0 HB1 Hb1
    obtain ⟨s, B, hs, rfl, hT, hB, hb⟩ := hrel
    have hlb := hb.lt
    have hTl := hT.lt
    by_cases hlt : s < n
    · have hss : (s : Int) < n := by omega
      have hTa := hT.below (bal (Below.refl _ wr) (.cells #[.int .i64 ((s : Int) + 1), .int .i64 s] 3))
      have hBa := bal hB (.cells #[.int .i64 ((s : Int) + 1), .int .i64 s] 3)
      have hba := hb.alloc (.cells #[.int .i64 ((s : Int) + 1), .int .i64 s] 3)
      have hli := Ints.two' wr ((s : Int) + 1) s 3 _ rfl
      have hrow := hTa.row (Nat.le_refl s) (by rw [if_pos rfl] : s + 1 = if s = s then s + 1 else s) ⟨by omega, by omega⟩ hli
      have hcs := hTa.cell hlt
      rw [if_neg (Nat.lt_irrefl s)] at hcs
      have hfs := hTa.free s
      have hBs := hid (hBa.setCell (p := ⟨w.heap.size + 1, s, none⟩) (by show w.heap.size ≤ w.heap.size + 1; omega) (.slice (some ⟨wr.heap.size, 0, none⟩) 2 2))
      have hbs : Hid (Boxed ((wr.alloc (.cells #[.int .i64 ((s : Int) + 1), .int .i64 s] 3)).setCell ⟨w.heap.size + 1, s, none⟩ (.slice (some ⟨wr.heap.size, 0, none⟩) 2 2)) w.heap.size 24 (.slice none 0 0)) := hid ((Below.heap_setCell _ _ _ _ (by simp)).trans hba)
      have hfe : (fun i : Nat => if i = s then [((s : Int) + 1), (s : Int)] else [((i : Int) + 1), (i : Int)]) = fun i : Nat => [((i : Int) + 1), (i : Int)] := by
        funext i
        by_cases e : i = s
        · subst e; simp
        · simp [e]
      rw [hfe] at hrow
      have hcomm := World.setCell_alloc_past (w := wr) (.cells #[.int .i64 ((s : Int) + 1), .int .i64 s] 3) (w.heap.size + 1) s (.slice (some ⟨wr.heap.size, 0, none⟩) 2 2) hTl.2
      rw [hcomm] at hrow hBs hbs
      clear hcomm
      have HR := hid hrow
      clear hrow hTa hfe hT
      go_wp2
      go_roundw
      case rel => exact ⟨s + 1, _, by omega, by go_num, HR.out, hBs.out, hbs.out⟩
      case measure => simp [intOf]; omega
    · obtain rfl : s = n := by omega
      have hss : ¬ ((s : Nat) : Int) < s := by omega
      have hsub : IntKind.i64.wrap ((s : Int) - 1) = ((s - 1 : Nat) : Int) := by rw [IntWalk.i64_in _ (by omega)]; omega
      have hlt2 : ((s - 1 : Nat) : Int) < s := by omega
      have hTa := hT.below (bal (Below.refl _ wr) (.cells #[.int .i64 0, .int .i64 0] 3))
      have hBa := bal hB (.cells #[.int .i64 0, .int .i64 0] 3)
      have hba := hb.alloc (.cells #[.int .i64 0, .int .i64 0] 3)
      have hli := Ints.two' wr 0 0 3 _ rfl
      have hrow := hTa.row (show s - 1 ≤ s by omega) (by rw [if_neg (by omega)] : s = if s - 1 = s then s + 1 else s) ⟨by omega, by omega⟩ hli
      have hcs := hTa.cell (show s - 1 < s by omega)
      rw [if_pos (show s - 1 < s by omega)] at hcs
      have hfs := hTa.free (s - 1)
      have hBs := (hBa.setCell (p := ⟨w.heap.size + 1, s - 1, none⟩) (by show w.heap.size ≤ w.heap.size + 1; omega) (.slice (some ⟨wr.heap.size, 0, none⟩) 2 2))
      have hbs : Boxed ((wr.alloc (.cells #[.int .i64 0, .int .i64 0] 3)).setCell ⟨w.heap.size + 1, s - 1, none⟩ (.slice (some ⟨wr.heap.size, 0, none⟩) 2 2)) w.heap.size 24 (.slice none 0 0) := (Below.heap_setCell _ _ _ _ (by simp)).trans hba
      have m1 := hbs.cell; have m1f := hbs.frozen
      have hrw := hrow.other (c := w.heap.size) (u := .slice (some ⟨w.heap.size + 1, 0, none⟩) s s) (by omega)
      have hrows := hrw.rows (by omega)
      have he : (List.range s).map (fun i : Nat => if i = s - 1 then ([0, 0] : List Int) else [((i : Int) + 1), (i : Int)]) = cernyM s := rfl
      rw [he] at hrows
      have hfin := (hbs.set (.slice (some ⟨w.heap.size + 1, 0, none⟩) s s)).cell
      have HB := (hBs.setCell (p := ⟨w.heap.size, 0, none⟩) (Nat.le_refl _) (.slice (some ⟨w.heap.size + 1, 0, none⟩) s s))
      have hcomm := World.setCell_alloc_past (w := wr) (.cells #[.int .i64 0, .int .i64 0] 3) (w.heap.size + 1) (s - 1) (.slice (some ⟨wr.heap.size, 0, none⟩) 2 2) hTl.2
      have hcomm2 := World.setCell_alloc_past (w := wr.setCell ⟨w.heap.size + 1, s - 1, none⟩ (.slice (some ⟨wr.heap.size, 0, none⟩) 2 2)) (.cells #[.int .i64 0, .int .i64 0] 3) w.heap.size 0 (.slice (some ⟨w.heap.size + 1, 0, none⟩) s s) (by simp [World.setCell]; omega)
      rw [hcomm] at hrows hfin HB m1 m1f
      rw [hcomm2] at hrows hfin HB
      clear hcomm hcomm2
      have HR := hid hrows
      have HB := hid HB
      clear hrow hrw hrows he hTa hT hBs
      go_wp2
      exact bodyPost_ret (v := .tuple #[.agg #[.slice (some ⟨w.heap.size + 1, 0, none⟩) s s], .int .i64 0]) (by simp [results, Tryd.results19, go_sem, hfin]) rfl ⟨_, rfl, HR.out, HB.out⟩
end Go.Proofs.YtiiiinoappjhdaaDoor
namespace Go.Proofs.YtiiiinoappjhdaaDoor
open Go.RowKit Go.Shelf
theorem lit2_rows (w : World) (a b c d : Int) : Rows (((w.alloc (.cells #[.int .i64 a, .int .i64 b] 3)).alloc (.cells #[.int .i64 c, .int .i64 d] 3)).alloc
    (.cells #[.slice (some ⟨w.heap.size, 0, none⟩) 2 2, .slice (some ⟨w.heap.size + 1, 0, none⟩) 2 2] 25)) (.slice (some ⟨w.heap.size + 1 + 1, 0, none⟩) 2 2) [[a, b], [c, d]] :=
  rows2 _ _ _ _ _ _ _ (by simp) ((Ints.two' w a b _ _ rfl).alloc _) (Ints.two' _ c d _ _ (by simp))
end Go.Proofs.YtiiiinoappjhdaaDoor
namespace Go.Proofs.YtiiiinoappjhdaaDoor
open Go.RowKit Go.Shelf
theorem c3_valid : validM (cernyM 3) = true := by decide +kernel
theorem c3_rows : cernyM 3 = [[1, 0], [2, 1], [0, 0]] := by decide +kernel
theorem c3_first : ((List.range 8).all fun i => !(decide (i < (imgF (cernyM 3)).length) && (szB (imgF (cernyM 3)) i == 1 && (List.range i).all (fun j => szB (imgF (cernyM 3)) j != 1))) || wordB (imgF (cernyM 3)) i == [1, 0, 0, 1]) = true := by decide +kernel
theorem c3_some : ((List.range 8).any fun i => decide (i < (imgF (cernyM 3)).length) && szB (imgF (cernyM 3)) i == 1) = true := by decide +kernel
theorem m3b_valid4 : validM [[1, 1], [0, 0]] = true := by decide +kernel
theorem m3b_rank : rkS (imgF [[1, 1], [0, 0]]) 2 (imgF [[1, 1], [0, 0]]).length = (2, []) := by decide +kernel
theorem shortest_c3 (v : Value) (w : World) (hT : Tab w) (h : Rows w v (cernyM 3)) : Calls Tryd.prog 11 #[.agg #[v]] w fun e w' => ∃ A c, e = .returned (.tuple #[.slice A 4 c, .int .i64 0]) ∧ Ints w' (.slice A 4 c) [1, 0, 0, 1] ∧ Below w.heap.size w w' := by
  refine (Shortest_ok v (cernyM 3) w hT h c3_valid (by decide)).mono ?_
  have hl : (imgF (cernyM 3)).length ≤ 8 := (imgF_good c3_valid).len
  rintro e w1 ⟨⟨i, r, hi, hs, hn, rfl, ho⟩ | ⟨hn, _⟩, hb⟩
  · have h1 := List.all_eq_true.1 c3_first i (List.mem_range.2 (by omega))
    have h2 : ((List.range i).all fun j => szB (imgF (cernyM 3)) j != 1) = true := by
      rw [List.all_eq_true]
      intro j hj
      have := hn j (List.mem_range.1 hj)
      simpa using this
    have hw : wordB (imgF (cernyM 3)) i = [1, 0, 0, 1] := by
      rw [h2, hs, decide_eq_true hi] at h1
      simpa using h1
    rw [hw] at ho
    have hI : Ints w1 r [1, 0, 0, 1] := Ints.of_own ho (by decide)
    obtain ⟨A, c, rfl, -, -⟩ := id hI
    exact ⟨A, c, rfl, hI, hb⟩
  · obtain ⟨i, hi, h2⟩ := List.any_eq_true.1 c3_some
    simp only [Bool.and_eq_true, decide_eq_true_eq, beq_iff_eq] at h2
    exact absurd h2.2 (hn i h2.1)
theorem rank_m3b (v : Value) (w : World) (hT : Tab w) (h : Rows w v [[1, 1], [0, 0]]) : Calls Tryd.prog 17 #[.agg #[v]] w fun e w' => ∃ A c, e = .returned (.tuple #[.int .i64 2, .slice A 0 c, .int .i64 0]) ∧ Below w.heap.size w w' := by
  refine (Rank_ok v [[1, 1], [0, 0]] w hT h m3b_valid4 (by decide)).mono ?_
  rintro e w1 ⟨r, rfl, ho, hb⟩
  rw [show ([[1, 1], [0, 0]] : List (List Int)).length = 2 from rfl, m3b_rank] at ho ⊢
  obtain ⟨A, c, rfl⟩ := ownsRow_slice ho
  exact ⟨A, c, rfl, hb⟩
theorem Ints.four' (w : World) (x y z u : Int) (t : TypeId) (k : Nat) (hk : k = w.heap.size) : Ints (w.alloc (.cells #[.int .i64 x, .int .i64 y, .int .i64 z, .int .i64 u] t)) (.slice (some ⟨k, 0, none⟩) 4 4) [x, y, z, u] := by
  subst hk
  refine ⟨_, 4, rfl, by unfold big; simp, fun i hi => ⟨w.heap.size, 0, rfl, ?_⟩⟩
  have h2 : i = 0 ∨ i = 1 ∨ i = 2 ∨ i = 3 := by simp at hi; omega
  rcases h2 with rfl | rfl | rfl | rfl <;> simp
set_option maxRecDepth 100000 in
set_option maxHeartbeats 2000000 in
theorem awake4_any (w : World) (hT : Tab w) :
    Calls Tryd.prog 16 #[] w fun e w' => e = .returned (.bool true) ∧ Below w.heap.size w w' := by
  go_enter Tryd.func16, Tryd.ntmps16
  go_wp2_with fail
  refine (Cerny_any 3 w (by decide) (by decide)).mono ?_
  rintro e w1 ⟨r1, rfl, i1, h1⟩
  obtain ⟨A1, k1, rfl⟩ : ∃ A c, r1 = .slice A 3 c := by obtain ⟨A, c, hv, _⟩ := id i1; exact ⟨A, c, hv⟩
  have hX := bal (Below.refl _ w1) (.cells #[.slice A1 3 k1] 24)
  have q1 := Boxed.new w1 24 (.slice A1 3 k1)
  have i1X := i1.below hX
  have B1 := btr h1 hX
  have c1 := q1.cell
  go_wp2_with fail
  generalize w1.alloc (.cells #[.slice A1 3 k1] 24) = X at *
  refine (shortest_c3 _ X (hT.on B1) i1X).mono ?_
  rintro e w2 ⟨A2, k2, rfl, i2, h2⟩
  have c2 := (h2.cell (p := ⟨w1.heap.size, 0, none⟩) (World.block_lt_of_cell? _ _ c1)).trans c1
  have B2 := btr B1 h2
  have i12 := i1X.below h2
  have hR2 := lit2_rows w2 1 1 0 0
  have hX2 := bal (bal (bal (Below.refl _ w2) (.cells #[.int .i64 1, .int .i64 1] 3)) (.cells #[.int .i64 0, .int .i64 0] 3)) (.cells #[.slice (some ⟨w2.heap.size, 0, none⟩) 2 2, .slice (some ⟨w2.heap.size + 1, 0, none⟩) 2 2] 25)
  clear hX q1 i1X i1 h1 c1 h2
  go_wp2_with fail
  refine (rank_m3b _ _ (hT.on (btr B2 hX2)) hR2).mono ?_
  rintro e w3 ⟨A3, k3, rfl, h3⟩
  have b3 := btr hX2 h3
  have c3 := (b3.cell (p := ⟨w1.heap.size, 0, none⟩) (World.block_lt_of_cell? _ _ c2)).trans c2
  have B3 := btr B2 b3
  have i13 := i12.below b3
  have i23 := i2.below b3
  have hX3 := bal (bal (bal (bal (Below.refl _ w3) (.cells #[.int .i64 1, .int .i64 0] 3)) (.cells #[.int .i64 2, .int .i64 1] 3)) (.cells #[.int .i64 0, .int .i64 0] 3)) (.cells #[.slice (some ⟨w3.heap.size, 0, none⟩) 2 2, .slice (some ⟨w3.heap.size + 1, 0, none⟩) 2 2, .slice (some ⟨w3.heap.size + 1 + 1, 0, none⟩) 2 2] 25)
  have hR3 := lit_rows w3 1 0 2 1 0 0
  have i14 := i13.below hX3
  rw [c3_rows] at i14
  have i24 := i23.below hX3
  have B4 := btr B3 hX3
  clear hR2 hX2 h3 b3 c2 i12 i2 B2 i13 i23
  go_wp2_with fail
  refine (rSames_eq _ _ [[1, 0], [2, 1], [0, 0]] _ i14 hR3).mono ?_
  rintro e w4 ⟨rfl, h4⟩
  have i25 := (i24.below h4).alloc (.cells #[.int .i64 1, .int .i64 0, .int .i64 0, .int .i64 1] 3)
  have B5 := btr B4 h4
  have B6 := bal B5 (.cells #[.int .i64 1, .int .i64 0, .int .i64 0, .int .i64 1] 3)
  clear hR3 i14 hX3 c3
  go_wp2_with fail
  refine (rSame_eq _ _ [1, 0, 0, 1] _ i25 (Ints.four' w4 1 0 0 1 3 _ rfl)).mono ?_
  rintro e w5 ⟨rfl, h5⟩
  go_wp2
  go_ret
  exact ⟨rfl, btr B6 h5⟩
end Go.Proofs.YtiiiinoappjhdaaDoor
namespace Go.Proofs.YtiiiinoappjhdaaDoor
open Go.RowKit Go.Shelf
theorem Ints.nil (w : World) : Ints w (.slice none 0 0) [] := ⟨none, 0, rfl, by simp, fun i hi => by simp at hi⟩
end Go.Proofs.YtiiiinoappjhdaaDoor
namespace Go.Proofs.YtiiiinoappjhdaaDoor
open Go.RowKit
/-- The state to which a map of four states, packed in a number, leads. -/
def two4 (A s : Nat) : Nat := Nat.land (Nat.shiftRight A (Nat.mul 2 s)) 3
def nib4 (T k : Nat) : Nat := Nat.land (Nat.shiftRight T (Nat.mul 4 k)) 15
def img4 (A S : Nat) : Nat := Nat.lor (cond (Nat.testBit S 0) (Nat.shiftLeft 1 (two4 A 0)) 0) (Nat.lor (cond (Nat.testBit S 1) (Nat.shiftLeft 1 (two4 A 1)) 0) (Nat.lor (cond (Nat.testBit S 2) (Nat.shiftLeft 1 (two4 A 2)) 0) (cond (Nat.testBit S 3) (Nat.shiftLeft 1 (two4 A 3)) 0)))
/-- All images of sets, packed in a number. -/
def tab4 (A : Nat) : Nat := (List.range 16).foldl (fun T S => Nat.lor T (Nat.shiftLeft (img4 A S) (Nat.mul 4 S))) 0
/-- The sets to which the letters lead from sets; sets of sets as bits. -/
def stp4 (TA TB M : Nat) : Nat → Nat → Nat
  | 0, acc => acc
  | k + 1, acc => stp4 TA TB M k (cond (Nat.testBit M k) (Nat.lor acc (Nat.lor (Nat.shiftLeft 1 (nib4 TA k)) (Nat.shiftLeft 1 (nib4 TB k)))) acc)
theorem nib4_img : ((List.range 256).all fun A => (List.range 16).all fun S => Nat.beq (nib4 (tab4 A) S) (img4 A S)) = true := by decide +kernel
theorem img4_has : ((List.range 256).all fun A => (List.range 16).all fun S => Nat.blt (img4 A S) 16 && (List.range 4).all fun s => !Nat.testBit S s || Nat.testBit (img4 A S) (two4 A s)) = true := by decide +kernel
def si4 (A B S : Nat) (x : Int) : Nat := if x = 0 then img4 A S else img4 B S
def im4 (A B S : Nat) (u : List Int) : Nat := u.foldl (si4 A B) S
def bin (u : List Int) : Prop := ∀ x ∈ u, x = 0 ∨ x = 1
theorem img4_spec {A S s : Nat} (hA : A < 256) (hS : S < 16) : img4 A S < 16 ∧ (s < 4 → S.testBit s = true → (img4 A S).testBit (two4 A s) = true) := by
  have h := List.all_eq_true.1 (List.all_eq_true.1 img4_has A (List.mem_range.2 hA)) S (List.mem_range.2 hS)
  rw [Bool.and_eq_true] at h
  refine ⟨by have := h.1; simp [Nat.blt] at this; omega, fun hs hb => ?_⟩
  have h2 := List.all_eq_true.1 h.2 s (List.mem_range.2 hs)
  rw [hb] at h2
  simpa using h2
theorem bit_single : ∀ k j, (1 <<< k : Nat).testBit j = true → j = k := fun k j h => by
  rw [Nat.one_shiftLeft, Nat.testBit_two_pow] at h
  have := of_decide_eq_true h
  omega
/-- What a step of sets of sets reaches. -/
theorem stp4_spec (TA TB M : Nat) : ∀ k acc j, (stp4 TA TB M k acc).testBit j = true → acc.testBit j = true ∨ ∃ S, S < k ∧ M.testBit S = true ∧ (j = nib4 TA S ∨ j = nib4 TB S)
  | 0, acc, j, h => .inl h
  | k + 1, acc, j, h => by
    rcases stp4_spec TA TB M k _ j h with h1 | ⟨S, h1, h2, h3⟩
    · cases hb : Nat.testBit M k with
      | false => rw [hb] at h1; exact .inl h1
      | true =>
        rw [hb] at h1
        have h2 : (acc ||| (1 <<< nib4 TA k ||| 1 <<< nib4 TB k)).testBit j = true := h1
        rw [Nat.testBit_or, Nat.testBit_or, Bool.or_eq_true, Bool.or_eq_true] at h2
        rcases h2 with h3 | h3 | h3
        · exact .inl h3
        · exact .inr ⟨k, Nat.lt_succ_self k, hb, .inl (bit_single _ _ h3)⟩
        · exact .inr ⟨k, Nat.lt_succ_self k, hb, .inr (bit_single _ _ h3)⟩
    · exact .inr ⟨S, by omega, h2, h3⟩
theorem nib4_spec {A S : Nat} (hA : A < 256) (hS : S < 16) : nib4 (tab4 A) S = img4 A S := Nat.eq_of_beq_eq_true (List.all_eq_true.1 (List.all_eq_true.1 nib4_img A (List.mem_range.2 hA)) S (List.mem_range.2 hS))
/-- A set of sets all of which words of k letters reach from all states. -/
def Rch (A B k M : Nat) : Prop := ∀ S, M.testBit S = true → S < 16 ∧ ∃ u : List Int, bin u ∧ u.length = k ∧ im4 A B 15 u = S
theorem Rch.step {A B k M : Nat} (hA : A < 256) (hB : B < 256) (h : Rch A B k M) : Rch A B (k + 1) (stp4 (tab4 A) (tab4 B) M 16 0) := fun j hj => by
  rcases stp4_spec _ _ _ _ _ _ hj with h1 | ⟨S, h1, h2, h3⟩
  · simp at h1
  · obtain ⟨_, u, u1, u2, u3⟩ := h S h2
    rw [nib4_spec hA h1, nib4_spec hB h1] at h3
    rcases h3 with rfl | rfl
    · refine ⟨(img4_spec (s := 0) hA h1).1, u ++ [0], fun x hx => ?_, by simp [u2], ?_⟩
      · rcases List.mem_append.1 hx with h4 | h4
        · exact u1 x h4
        · exact .inl (by simpa using h4)
      · unfold im4 at u3 ⊢
        rw [List.foldl_append, u3]; rfl
    · refine ⟨(img4_spec (s := 0) hB h1).1, u ++ [1], fun x hx => ?_, by simp [u2], ?_⟩
      · rcases List.mem_append.1 hx with h4 | h4
        · exact u1 x h4
        · exact .inr (by simpa using h4)
      · unfold im4 at u3 ⊢
        rw [List.foldl_append, u3]; rfl
end Go.Proofs.YtiiiinoappjhdaaDoor
