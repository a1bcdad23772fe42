/-
  The image of a set by a letter.
-/
import Derived.Test.YtibaihchnbbokaaDoorT5
import Derived.Shelf.RegionOpen
namespace Go.Proofs.YtibaihchnbbokaaDoor
open Go.RowKit Go.Shelf
attribute [local go_sem] Oper.semAt_some

/-- The set to which a letter leads from some states. -/
def imgTo (m : List (List Int)) (x : Int) (l : List Nat) : Nat := l.foldl (fun T s => T ||| 2 ^ nx m s x) 0
theorem imgTo_snoc (m : List (List Int)) (x : Int) (l : List Nat) (s : Nat) : imgTo m x (l ++ [s]) = imgTo m x l ||| 2 ^ nx m s x := by simp [imgTo, List.foldl_append]
theorem imgTo_lt' (m : List (List Int)) (x : Int) (n : Nat) : ∀ (l : List Nat) (T : Nat), T < 2 ^ n → (∀ s ∈ l, nx m s x < n) → l.foldl (fun T s => T ||| 2 ^ nx m s x) T < 2 ^ n
  | [], T, hT, _ => hT
  | s :: l, T, hT, h => imgTo_lt' m x n l _ (with_lt T _ n hT (h s (by simp))) (fun y hy => h y (List.mem_cons_of_mem _ hy))
theorem imgTo_lt (m : List (List Int)) (x : Int) (n : Nat) (l : List Nat) (h : ∀ s ∈ l, nx m s x < n) : imgTo m x l < 2 ^ n := imgTo_lt' m x n l 0 (Nat.two_pow_pos n) h

theorem elems_lt {S n : Nat} (hS : S < 2 ^ n) {s : Nat} (h : s ∈ elems S) : s < n := by
  have h := (mem_elems S s).1 h
  rcases Nat.lt_or_ge s n with h1 | h1
  · exact h1
  · have := Nat.testBit_lt_two_pow (i := s) (Nat.lt_of_lt_of_le hS (Nat.pow_le_pow_right (by decide) h1))
    rw [this] at h; simp at h

theorem follows : Tryd.prog.follows .mixedOrders = true := by kernel_rfl

set_option maxRecDepth 100000 in
set_option maxHeartbeats 1000000 in
theorem SetImage_any (v : Value) (m : List (List Int)) (S : Nat) (x : Nat) (w : World) (hT : Tab w) (h : Rows w v m) (hv : validM m = true) (hS : S < 2 ^ m.length) (hx : x < letters m) :
    Calls Tryd.prog 62 #[.int .u64 S, v, .int .i64 x] w fun e w' => e = .returned (.int .u64 (imgTo m x (elems S) : Nat)) ∧ Below w.heap.size w w' := by
  obtain ⟨p1, p2, p3, p4, p5⟩ := valid_parts hv
  have hS64 : S < 2 ^ 64 := Nat.lt_of_lt_of_le hS (Nat.pow_le_pow_right (by decide) (by omega))
  have hfo := follows
  have hr := h
  obtain ⟨A, cap, rfl, hml, hc⟩ := h
  refine (callsIn_wide (n := 0)).1 ?_
  refine callsIn_of_wp_marks Tryd.func62 rfl trivial ?_ rfl
  simp only [Tryd.ntmps62, List.size_toArray, List.length_cons, List.length_nil, Nat.reduceAdd, Nat.reduceSub, Array.replicate_succ, Array.replicate_zero, List.push_toArray, List.append_toArray, List.nil_append, List.cons_append]
  gi_wp2
  have q1 := Boxed.new w 22 (.slice A m.length cap)
  have q2 := Boxed.new (w.alloc (.cells #[.slice A m.length cap] 22)) 3 (.int .i64 x)
  have q3 := Boxed.new ((w.alloc (.cells #[.slice A m.length cap] 22)).alloc (.cells #[.int .i64 x] 3)) 78 (.int .u64 0)
  simp only [World.size_alloc] at q2 q3
  have hb0 : Below w.heap.size w (((w.alloc (.cells #[.slice A m.length cap] 22)).alloc (.cells #[.int .i64 x] 3)).alloc (.cells #[.int .u64 0] 78)) := bal (bal (bal (Below.refl _ _) _) _) _
  refine range_law (gf := 80) (fb := #[.int .u64 S]) (lb := #[]) rfl (enters_of Tryd.func80 (by kernel_rfl) rfl)
    (All_seq S hS64 w.heap.size hT.lt _ hb0.size (hT.on hb0)) (fun _ _ _ _ _ _ => trivial) hb0.size (Below.refl _ _) (fun _ => rfl)
    (fun X pre W => (Mine X W w.heap.size 22 (.slice A m.length cap) ∧ Mine X W (w.heap.size + 1) 3 (.int .i64 x)) ∧ (Mine X W (w.heap.size + 1 + 1) 78 (.int .u64 (imgTo m x pre : Nat)) ∧ Base w.heap.size w X W))
    (fun _ _ _ _ => False)
    (Stable.and (Stable.and (stable_box _ _ _ (fun _ => _)) (stable_box _ _ _ (fun _ => _))) (Stable.and (stable_box _ _ _ (fun pre => .int .u64 (imgTo m x pre : Nat))) (stable_base _ _ _ hb0.size (Nat.le_refl _))))
    (fun _ _ _ _ _ _ hs _ _ _ _ _ _ => hs)
    ⟨⟨⟨(q1.alloc _).alloc _, fun h => h⟩, ⟨q2.alloc _, fun h => h⟩⟩, ⟨q3, fun h => h⟩, Base.start hb0⟩
    (fun s a' _ => a' = { tmps := #[.int .u64 S, .slice A m.length cap, .int .i64 x, undef, .pointer (some ⟨w.heap.size, 0, none⟩), .pointer (some ⟨w.heap.size + 1, 0, none⟩), .int .u64 0, .pointer (some ⟨w.heap.size + 1 + 1, 0, none⟩), .int .i64 s, .int .u64 S, .func (.func 80) #[.int .u64 S] #[], .int .i64 s, undef, undef, undef, undef, undef, undef, undef, undef, undef, undef], defers := [] })
    (fun _ _ _ _ _ _ _ hs _ _ _ _ _ _ => hs) ?assign ?body ?done ?stop
  case assign =>
    intro l X pre s W K hi hK
    gi_wp2
    exact hK _ _ (KeepsFrom.refl _ _) (Keep.refl _ _ _) hi rfl
  case body =>
    rintro l X pre s a' W hl hrec hXl hXs ⟨⟨b1, b2⟩, b3, hB⟩ _ rfl hsp
    have hs : s < m.length := elems_lt hS (hsp.subset (by simp))
    obtain ⟨b, off, r, hA, hcell, hrow⟩ := hc s hs
    obtain ⟨Ar, capr, rfl, hlr, hcr⟩ := hrow
    subst hA
    have hrl := (p5 s hs).1
    obtain ⟨br, offr, hAr, hrcell⟩ := hcr x (by omega)
    subst hAr
    have hnx := nx_ok hv hs (x := x) (by omega) (by omega)
    rw [Int.toNat_natCast] at hnx
    rw [hnx.2] at hrcell
    rw [hrl] at hcell
    have hcell' := (hB.2.cell (p := ⟨b, off + s, none⟩) (World.block_lt_of_cell? _ _ hcell)).trans hcell
    have hrcell' := (hB.2.cell (p := ⟨br, offr + x, none⟩) (World.block_lt_of_cell? _ _ hrcell)).trans hrcell
    have hT := imgTo_lt m x 64 pre (fun t ht => by have := (nx_ok hv (elems_lt hS (hsp.subset (List.mem_append_left [s] ht))) (x := (x : Int)) (by omega) (by omega)).1; omega)
    have hq : nx m s x < 64 := by omega
    have hin1 : (s : Int) < m.length := by omega
    have hin2 : (x : Int) < letters m := by omega
    have c1 := b1.cell; have c2 := b2.cell; have c3 := b3.cell; have f3 := b3.frozen
    clear hXs hc hcr hcell hrcell p5 hrl hnx hsp hrec hr q1 q2 q3 hb0 hl hml hlr
    generalize hy : nx m s x = q at *
    have Hy := hid hy
    clear hy
    generalize hTe : imgTo m x pre = T at *
    have HT := hid hTe
    clear hTe
    gi_wp2
    gi_region_with_o (refine ⟨trivial, rfl, ?_⟩; gi_at_call 87; refine (inr l _ (With_any T q _ hT hq)).mono ?_; rintro e w' ⟨rfl, rfl⟩)
    all_goals gi_wp2
    all_goals
      refine ⟨(kf_set _ _ _ _).trans (kf_drew _ _), (keep_set _ _ _ (by omega) b3.2).drew, ⟨(b1.other (by omega) _).drew, (b2.other (by omega) _).drew⟩, ?_, ?_⟩
      · rw [imgTo_snoc, Hy.out, HT.out]; exact (b3.set _).drew
      · exact hB.step ((keep_set _ _ _ (by omega) b3.2).drew.below hB.2.size)
  case done =>
    rintro D X xs W hD rfl ⟨_, b3, hB⟩ hK
    have b3c := b3.cell
    gi_wp2
    refine ⟨by simp, .inl ⟨_, _, rfl, run_takeDeferred hK, ?_⟩⟩
    exact ⟨_, results_tmp rfl _ _ _, rfl, hB.2.trans (belowK_b (w := w) (Nat.le_refl _) _ D _ _ (by have := hb0.size; omega) hK rfl rfl)⟩
  case stop =>
    rintro D X c pre W _ _ h _
    exact h.elim
end Go.Proofs.YtibaihchnbbokaaDoor
