/-
  The list of a set.
-/
import Derived.Test.YtibaihchnbbokaaDoorT5
import Derived.Maps.OwnIn
namespace Go.Proofs.YtibaihchnbbokaaDoor
open Go.RowKit Go.Shelf
attribute [local go_sem] Oper.semAt_some

theorem infoInt : (Tryd.prog.info? 3).map (fun i => (i.zero, i.size, i.bytes)) = some (some (.int .i64 0), 1, 8) := by kernel_rfl

/-- The elements as ints. -/
def intsOf (l : List Nat) : List Int := l.map fun x : Nat => (x : Int)
theorem elems_length (S : Nat) : (elems S).length ≤ 64 := by
  have := List.length_filter_le S.testBit (List.range 64)
  simpa [elems] using this

set_option maxRecDepth 100000 in
set_option maxHeartbeats 1000000 in
theorem List_any (S : Nat) (w : World) (hT : Tab w) (hS : S < 2 ^ 64) :
    Calls Tryd.prog 81 #[.int .u64 S] w fun e w' => ∃ v, e = .returned v ∧ Ints w' v (intsOf (elems S)) ∧ Below w.heap.size w w' := by
  obtain ⟨i0, hi, hz0, hz1, hz2⟩ := info_parts infoInt
  have hlen := elems_length S
  refine (callsIn_wide (n := 0)).1 ?_
  refine callsIn_of_wp_marks Tryd.func81 rfl trivial ?_ rfl
  simp only [Tryd.ntmps81, List.size_toArray, List.length_cons, List.length_nil, Nat.reduceAdd, Nat.reduceSub, Array.replicate_succ, Array.replicate_zero, List.push_toArray, List.append_toArray, List.nil_append, List.cons_append]
  gi_wp2_with (first | (refine ⟨trivial, rfl, ?_⟩; gi_at_call 98; refine (callsIn_wide.2 (Size_any S _ hS)).mono ?_; rintro e w' ⟨rfl, rfl⟩) | (gi_at_make; refine wpListIn_make_own _ rfl _ _ 25 rfl w.heap.size 3 i0 (.int .i64 0) 1 Tryd.underlying25 hi hz0 hz1 .i64 .i64 _ (elems S).length rfl rfl rfl (by rw [hz2]; omega) (by unfold maxLen; omega) (Nat.le_refl _) ?_; intro w1 hown hgrow))
  have hb1 : Below w.heap.size w w1 := (Below.refl _ w).grown hgrow (Nat.le_refl _) (fun k e => by cases e)
  have q1 := Boxed.new w1 25 (.slice (some ⟨w.heap.size, 0, none⟩) 0 (elems S).length)
  have hb0 := bal hb1 (.cells #[.slice (some ⟨w.heap.size, 0, none⟩) 0 (elems S).length] 25)
  have hsz := hb1.size
  have hown0 := hown.alloc (.cells #[.slice (some ⟨w.heap.size, 0, none⟩) 0 (elems S).length] 25)
  refine range_law (gf := 80) (fb := #[.int .u64 S]) (lb := #[]) rfl (enters_of Tryd.func80 (by kernel_rfl) rfl)
    (All_seq S hS w.heap.size hT.lt _ hb0.size (hT.on hb0)) (fun _ _ _ _ _ _ => trivial) hb0.size (Below.refl _ _) (fun _ => rfl)
    (fun X pre W => MineRow w.heap.size X W w1.heap.size 25 3 (pre.map fun s : Nat => Value.int .i64 s) ∧ Base w.heap.size w X W)
    (fun _ _ _ _ => False)
    (Stable.and (stable_row _ _ _ _ _ (fun pre : List Nat => pre.map fun s : Nat => Value.int .i64 s)) (stable_base _ _ _ hb0.size (Nat.le_refl _)))
    (fun _ _ _ _ _ _ hs _ _ _ _ _ _ => hs)
    ⟨⟨_, ⟨q1, fun h => h⟩, by simpa using hown0, fun _ _ h => h⟩, Base.start hb0⟩
    (fun s a' _ => a' = { tmps := #[.int .u64 S, undef, .slice none 0 0, .pointer (some ⟨w1.heap.size, 0, none⟩), .int .i64 s, .int .u64 S, .int .i64 (elems S).length, .slice (some ⟨w.heap.size, 0, none⟩) 0 (elems S).length, .int .u64 S, .func (.func 80) #[.int .u64 S] #[], .int .i64 s, undef, undef, undef, undef, undef], defers := [] })
    (fun _ _ _ _ _ _ _ hs _ _ _ _ _ _ => hs) ?assign ?body ?done ?stop
  case assign =>
    intro l X pre s W K hi hK
    gi_wp2
    exact hK _ _ (KeepsFrom.refl _ _) (Keep.refl _ _ _) hi rfl
  case body =>
    rintro l X pre s a' W hl hrec hXl hXs ⟨⟨v, hm, ho, hx⟩, hB⟩ _ rfl hsp
    have hpl : pre.length < 64 := by have := hsp.length_le; simp at this; omega
    have hmc := hm.cell
    have hBs := hB.2.size
    simp only [List.length_map] at ho
    gi_wp2_with (gi_at_builtin; go_must (refine wpListIn_append_own_at _ rfl _ _ 25 rfl w.heap.size 3 i0 (.int .i64 0) 1 8 Tryd.underlying25 hi hz0 hz1 hz2 rfl (by decide) _ _ _ rfl (ho.alloc _) ⟨W.heap.size, 0, none⟩ 1 1 [.int .i64 s] rfl rfl (cell_one_new _ _ _) (by simp [Value.oneCell']) (by unfold maxLen; omega) (by omega) (by simp; omega) ?_); intro v' w2 hown' hgrow' _ hat; obtain ⟨g', cap', rfl⟩ := ownsRow_succ hown'; obtain ⟨r1, r2, r3, r4, r5, r6⟩ := MineRow.appended (e := 3) (xs := pre.map fun s : Nat => Value.int .i64 s) (ys := (pre ++ [s]).map fun s : Nat => Value.int .i64 s) hm (by simpa using ho) hx (by decide) hBs (by omega) hXs (by simpa using hown') hgrow' hat; have hc1 := r1.cell; have hf1 := r1.frozen)
    exact ⟨r3.from _, r5, r2, hB.step r4⟩
  case done =>
    rintro D X xs W hD rfl ⟨⟨v, hm, ho, hx⟩, hB⟩ hK
    have hmc := hm.cell
    gi_wp2
    refine ⟨by simp, .inl ⟨_, _, rfl, run_takeDeferred hK, ?_⟩⟩
    refine ⟨_, results_tmp rfl _ _ _, _, rfl, ?_, hB.2.trans (belowK_b (w := w) (Nat.le_refl _) _ D _ _ (by have := hb0.size; omega) hK rfl rfl)⟩
    refine Ints.of_own (n₀ := w.heap.size) (e := 3) (l := intsOf (elems S)) ?_ (by unfold big intsOf; simp; omega)
    have := ownsRow_putObj ho (.deferred none) hK rfl
    simpa [intsOf, Function.comp_def] using this
  case stop =>
    rintro D X c pre W _ _ h _
    exact h.elim
end Go.Proofs.YtibaihchnbbokaaDoor
