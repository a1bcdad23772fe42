/-
  Texts that the proof of the law stands on: F2, D4, E11, D5, E12, Z29, Z16, Z30, Z31, E10, E15, E16, L4, G2, Z9, Z15, Z17.
-/
import Derived.Test.YtlpfglkopnmlnaaDoorCaD
import Derived.Shelf.RegionOpen
import Derived.Deep.DeepMust
import Derived.Deep.RegionHeld3
import Derived.Deep.CutRange
namespace Go.Proofs.YtlpfglkopnmlnaaDoor
open Go.RowKit Go.Shelf
theorem merge_bound {m : List (List Int)} (hv : validM m = true) {C : List Nat} (hC : C.Nodup) (hlt : ∀ c ∈ C, c < m.length) {p q t : Nat} (hp : p ∈ C) (hq : q ∈ C) (hpq : p ≠ q) (hd : mergeP m p q t)
    (hmin : ∀ a ∈ C, ∀ b ∈ C, a ≠ b → ∀ j, j < t → ¬ mergeP m a b j) : 2 * t ≤ (m.length - C.length + 1) * (m.length - C.length + 2) := by
  obtain ⟨u, hu, hul, hur⟩ := hd
  have hinj : ∀ i, i < t → ∀ a ∈ C, ∀ b ∈ C, a ≠ b → runM m a (u.take i) ≠ runM m b (u.take i) := fun i hi a ha b hb hab e =>
    hmin a ha b hb hab i hi ⟨u.take i, allw_take hu i, by rw [List.length_take]; omega, e⟩
  obtain ⟨I, hI⟩ : ∃ I : Nat → List Nat, I = fun i => C.map fun c => runM m c (u.take i) := ⟨_, rfl⟩
  have hIi : ∀ i, I i = C.map fun c => runM m c (u.take i) := fun i => by rw [hI]
  have hIm : ∀ i x, x ∈ I i ↔ ∃ c ∈ C, runM m c (u.take i) = x := fun i x => by rw [hIi, List.mem_map]
  obtain ⟨D, hD⟩ : ∃ D : Nat → List Nat, D = fun i => (List.range m.length).filter fun s => decide (s ∉ I i) := ⟨_, rfl⟩
  have hDm : ∀ i x, x ∈ D i ↔ x < m.length ∧ x ∉ I i := fun i x => by rw [hD]; simp [List.mem_filter]
  refine pairs_bound (d := m.length - C.length) D (fun i => runM m p (u.take i)) (fun i => runM m q (u.take i)) ?_ ?_ ?_
  · intro i hi
    have hnd : ((I i ++ D i).map fun x : Nat => (x : Int)).Nodup := by
      have h0 : (I i ++ D i).Nodup := by
        rw [List.nodup_append]
        refine ⟨?_, ?_, ?_⟩
        · rw [hIi]
          unfold List.Nodup
          rw [List.pairwise_map]
          exact List.Pairwise.imp_of_mem (fun {a b} ha hb hab => hinj i hi a ha b hb hab) hC
        · rw [hD]
          exact List.Pairwise.filter _ (List.nodup_range)
        · rintro a ha b hb rfl
          exact ((hDm i a).1 hb).2 ha
      unfold List.Nodup at h0 ⊢
      rw [List.pairwise_map]
      exact List.Pairwise.imp (fun {a b} hab e => hab (by omega)) h0
    have := nodup_len m.length _ hnd (fun x hx => by
      obtain ⟨y, hy, rfl⟩ := List.mem_map.1 hx
      have : y < m.length := by
        rcases List.mem_append.1 hy with h | h
        · obtain ⟨c, hc, rfl⟩ := (hIm i y).1 h
          exact runQ_lt hv (hlt c hc) (allw_take hu i)
        · exact ((hDm i y).1 h).1
      omega)
    rw [List.length_map, List.length_append, hIi, List.length_map] at this
    omega
  · intro i hi
    exact ⟨fun h => ((hDm i _).1 h).2 ((hIm i _).2 ⟨p, hp, rfl⟩), fun h => ((hDm i _).1 h).2 ((hIm i _).2 ⟨q, hq, rfl⟩)⟩
  · intro j i hji hi
    apply Classical.byContradiction
    intro hno
    have hpl := runQ_lt hv (hlt p hp) (allw_take hu i)
    have hql := runQ_lt hv (hlt q hq) (allw_take hu i)
    have hpI : runM m p (u.take i) ∈ I j := Classical.byContradiction fun h => hno (.inl ((hDm j _).2 ⟨hpl, h⟩))
    have hqI : runM m q (u.take i) ∈ I j := Classical.byContradiction fun h => hno (.inr ((hDm j _).2 ⟨hql, h⟩))
    obtain ⟨a, ha, ea⟩ := (hIm j _).1 hpI
    obtain ⟨b, hb, eb⟩ := (hIm j _).1 hqI
    have hab : a ≠ b := fun e => by
      subst e
      exact hinj i hi p hp q hq hpq (ea.symm.trans eb)
    refine hmin a ha b hb hab (j + (t - i)) (by omega) ⟨u.take j ++ u.drop i, all_append_ok (allw_take hu j) (allw_drop hu i), ?_, ?_⟩
    · rw [List.length_append, List.length_take, List.length_drop]; omega
    · rw [runQ_append, runQ_append, ea, eb, run_split, run_split]
      exact hur
/-- Summed over the sizes. -/
theorem steps_sum {n k k' len t : Nat} (h : 6 * len ≤ (n - k) * (n - k + 1) * (n - k + 2)) (ht : 2 * t ≤ (n - k + 1) * (n - k + 2)) (hk : k' < k) (hkn : k ≤ n) : 6 * (len + t) ≤ (n - k') * (n - k' + 1) * (n - k' + 2) := by
  obtain ⟨d, hd⟩ : ∃ d, d = n - k := ⟨_, rfl⟩
  rw [← hd] at h ht
  have h1 : (d + 1) * (d + 1 + 1) * (d + 1 + 2) ≤ (n - k') * (n - k' + 1) * (n - k' + 2) :=
    Nat.mul_le_mul (Nat.mul_le_mul (by omega) (by omega)) (by omega)
  have h2 : (d + 1) * (d + 1 + 1) * (d + 1 + 2) = d * (d + 1) * (d + 2) + 3 * ((d + 1) * (d + 2)) := by grind
  omega
theorem steps_most {n len : Nat} (hn : 1 ≤ n) (h : 6 * len ≤ (n - 1) * (n - 1 + 1) * (n - 1 + 2)) : len ≤ (n * n * n - n) / 6 := by
  obtain ⟨d, rfl⟩ : ∃ d, n = d + 1 := ⟨n - 1, by omega⟩
  have h2 : (d + 1) * (d + 1) * (d + 1) = (d + 1 - 1) * (d + 1 - 1 + 1) * (d + 1 - 1 + 2) + (d + 1) := by
    rw [show d + 1 - 1 = d by omega]; grind
  omega
end Go.Proofs.YtlpfglkopnmlnaaDoor
namespace Go.Proofs.YtlpfglkopnmlnaaDoor
open Go.RowKit Go.Shelf
def soonStep (m : List (List Int)) (best x : Nat × Nat) : Nat × Nat := if x.1 < x.2 ∧ (best = (0, 0) ∨ mlen m x.1 x.2 < mlen m best.1 best.2) then x else best
/-- The first of the pairs whose shortest words are shortest; (0, 0): there is no pair. -/
def soonOf (m : List (List Int)) (Q : List (Nat × Nat)) : Nat × Nat := Q.foldl (soonStep m) (0, 0)
def soonOk (m : List (List Int)) (Q : List (Nat × Nat)) (r : Nat × Nat) : Prop := (r = (0, 0) ∧ ∀ x ∈ Q, ¬ x.1 < x.2) ∨ (r ∈ Q ∧ r.1 < r.2 ∧ ∀ x ∈ Q, x.1 < x.2 → mlen m r.1 r.2 ≤ mlen m x.1 x.2)
theorem soonOk_step {m : List (List Int)} {Q : List (Nat × Nat)} {r : Nat × Nat} (h : soonOk m Q r) (x : Nat × Nat) : soonOk m (Q ++ [x]) (soonStep m r x) := by
  unfold soonStep
  by_cases e : x.1 < x.2 ∧ (r = (0, 0) ∨ mlen m x.1 x.2 < mlen m r.1 r.2)
  · rw [if_pos e]
    refine .inr ⟨by simp, e.1, fun y hy hlt => ?_⟩
    rcases List.mem_append.1 hy with hy | hy
    · rcases h with ⟨_, h2⟩ | ⟨_, h2, h3⟩
      · exact absurd hlt (h2 y hy)
      · have := h3 y hy hlt
        rcases e.2 with e2 | e2
        · rw [e2] at h2; exact absurd h2 (Nat.lt_irrefl _)
        · omega
    · obtain rfl := List.mem_singleton.1 hy
      exact Int.le_refl _
  · rw [if_neg e]
    rcases h with ⟨h1, h2⟩ | ⟨h1, h2, h3⟩
    · refine .inl ⟨h1, fun y hy => ?_⟩
      rcases List.mem_append.1 hy with hy | hy
      · exact h2 y hy
      · obtain rfl := List.mem_singleton.1 hy
        exact fun hlt => e ⟨hlt, .inl h1⟩
    · refine .inr ⟨List.mem_append_left _ h1, h2, fun y hy hlt => ?_⟩
      rcases List.mem_append.1 hy with hy | hy
      · exact h3 y hy hlt
      · obtain rfl := List.mem_singleton.1 hy
        exact Int.not_lt.1 fun hl => e ⟨hlt, .inr hl⟩
theorem soonOf_snoc (m : List (List Int)) (Q : List (Nat × Nat)) (x : Nat × Nat) : soonOf m (Q ++ [x]) = soonStep m (soonOf m Q) x := by simp [soonOf, List.foldl_append]
theorem soonOf_ok (m : List (List Int)) (Q : List (Nat × Nat)) : soonOk m Q (soonOf m Q) := by
  have : ∀ (Q : List (Nat × Nat)) (k : Nat), k ≤ Q.length → soonOk m (Q.take k) (soonOf m (Q.take k)) := by
    intro Q k
    induction k with
    | zero => exact fun _ => .inl ⟨rfl, fun x hx => by simp at hx⟩
    | succ k ih =>
      intro hk
      rw [List.take_succ_eq_append_getElem (by omega), soonOf_snoc]
      exact soonOk_step (ih (by omega)) _
  have h := this Q Q.length (Nat.le_refl _)
  rwa [List.take_length] at h
/-- All pairs of a list, row by row. -/
def prodL (C : List Nat) : List (Nat × Nat) := C.flatMap fun p => C.map fun q => (p, q)
theorem prodL_mem {C : List Nat} {x : Nat × Nat} : x ∈ prodL C ↔ x.1 ∈ C ∧ x.2 ∈ C := by
  unfold prodL
  simp only [List.mem_flatMap, List.mem_map]
  constructor
  · rintro ⟨p, hp, q, hq, rfl⟩; exact ⟨hp, hq⟩
  · rintro ⟨h1, h2⟩; exact ⟨x.1, h1, x.2, h2, rfl⟩
section
variable {m : List (List Int)} (hv : validM m = true) {C : List Nat} (hC : C.Nodup) (hlt : ∀ c ∈ C, c < m.length) (h2 : 2 ≤ C.length)
include hv hC hlt h2
/-- The pair is one of the set, its word merges it, and is short. -/
theorem greedy_pair (hall : ∀ p q, p < q → q < m.length → ∃ k, mergeP m p q k) : ∃ t, (soonOf m (prodL C)).1 ∈ C ∧ (soonOf m (prodL C)).2 ∈ C ∧ (soonOf m (prodL C)).1 < (soonOf m (prodL C)).2 ∧ mdist m (soonOf m (prodL C)).1 (soonOf m (prodL C)).2 t ∧ 2 * t ≤ (m.length - C.length + 1) * (m.length - C.length + 2) := by
  generalize hr : soonOf m (prodL C) = r
  have hok := soonOf_ok m (prodL C)
  rw [hr] at hok
  rcases hok with ⟨_, hno⟩ | ⟨h3, h4, h5⟩
  · exfalso
    match C, hC, h2 with
    | a :: b :: l, hC, _ =>
      have hne : a ≠ b := fun e => by
        subst e
        exact (List.nodup_cons.1 hC).1 (by simp)
      have := hno (a, b) (prodL_mem.2 ⟨by simp, by simp⟩)
      have := hno (b, a) (prodL_mem.2 ⟨by simp, by simp⟩)
      simp only at *
      omega
  · obtain ⟨a1, a2⟩ := prodL_mem.1 h3
    obtain ⟨k, hk⟩ := hall r.1 r.2 h4 (hlt _ a2)
    obtain ⟨t, _, hd⟩ := mdist_some hk
    refine ⟨t, a1, a2, h4, hd, merge_bound hv hC hlt a1 a2 (by omega) hd.1 fun a ha b hb hab j hj hm => ?_⟩
    have hle : mlen m r.1 r.2 ≤ mlen m a b := by
      rcases Nat.lt_or_ge a b with h | h
      · exact h5 (a, b) (prodL_mem.2 ⟨ha, hb⟩) h
      · rw [mlen_symm hv (hlt a ha) (hlt b hb)]
        exact h5 (b, a) (prodL_mem.2 ⟨hb, ha⟩) (by simp only; omega)
    obtain ⟨i, hi, hdi⟩ := mdist_some hm
    rw [mlen_of hv (hlt _ a1) (hlt _ a2) hd, mlen_of hv (hlt a ha) (hlt b hb) hdi] at hle
    omega
end
/-- A word that merges two states of a set leads to fewer states. -/
theorem image_less {m : List (List Int)} {C C' : List Nat} (hC' : C'.Nodup) {u : List Int} (him : ∀ x ∈ C', ∃ c ∈ C, runM m c u = x) {p q : Nat} (hp : p ∈ C) (hq : q ∈ C) (hpq : p ≠ q) (hu : runM m p u = runM m q u) : C'.length < C.length := by
  have h1 := nodup_sub (A := C') (B := (C.erase q).map fun c => runM m c u) hC' fun x hx => by
    obtain ⟨c, hc, rfl⟩ := him x hx
    by_cases e : c = q
    · subst e
      exact List.mem_map.2 ⟨p, (List.mem_erase_of_ne hpq).2 hp, hu⟩
    · exact List.mem_map.2 ⟨c, (List.mem_erase_of_ne e).2 hc, rfl⟩
  rw [List.length_map, List.length_erase_of_mem hq] at h1
  have := List.length_pos_of_mem hq
  omega
end Go.Proofs.YtlpfglkopnmlnaaDoor
namespace Go.Proofs.YtlpfglkopnmlnaaDoor
open Go.RowKit Go.Shelf
attribute [local go_sem] Oper.semAt_some
/-- What hangs on the blocks below N alone. -/
def Dep (N : Nat) {β : Type} (J : β → World → Prop) : Prop :=
  ∀ s W W', J s W → W'.os = W.os → W'.tape = W.tape → W'.output = W.output → W.heap.size ≤ W'.heap.size → N ≤ W.heap.size → (∀ k, k < N → W'.heap[k]? = W.heap[k]?) → J s W'
theorem stable_dep {N : Nat} {β : Type} {J : β → World → Prop} (h : Dep N J) : Stable N (fun X s W => ((∀ k, X k → N ≤ k) ∧ N ≤ W.heap.size) ∧ J s W) := by
  rintro X X' s W W' ⟨⟨h1, h2⟩, h3⟩ a1 a2 a3 a4 he hX'
  refine ⟨⟨fun k hk => ?_, by omega⟩, h s W W' h3 a1 a2 a3 a4 h2 fun k hk => ?_⟩
  · rcases hX' k hk with h | h
    · exact h1 k h
    · omega
  · have hx : W.heap[k]? = some W.heap[k] := Array.getElem?_eq_getElem (by omega)
    rw [he k _ hx (fun h => by have := h1 k h; omega) (.inl hk), ← hx]
/-- The pairs that were looked at. -/
def seenQ (C pre : List Nat) : List (Nat × Nat) := pre.flatMap fun p => C.map fun q => (p, q)
theorem seenQ_snoc (C pre : List Nat) (p : Nat) : seenQ C (pre ++ [p]) = seenQ C pre ++ C.map fun q => (p, q) := by simp [seenQ, List.flatMap_append]
theorem seenQ_all (C : List Nat) : seenQ C C = prodL C := rfl
/-- The four boxes of the function. -/
structure SoonB (w : World) (S B : Nat) (best : Nat × Nat) (W : World) : Prop where
  set : W.heap[w.heap.size]? = some (.cells #[.int .u64 S] 79 (0, 0))
  map : W.heap[w.heap.size + 1]? = some (.cells #[.map (some B)] 82 (0, 0))
  res : W.heap[w.heap.size + 1 + 1]? = some (.cells #[.int .i64 0, .int .i64 0] 88 (0, 0))
  best : W.heap[w.heap.size + 1 + 1 + 1]? = some (.cells #[.int .i64 best.1, .int .i64 best.2] 88 (0, 0))
  below : Below w.heap.size w W
theorem SoonB.keep {w W W' : World} {S B : Nat} {best : Nat × Nat} (h : SoonB w S B best W) (a1 : W'.os = W.os) (a2 : W'.tape = W.tape) (a3 : W'.output = W.output) (a4 : W.heap.size ≤ W'.heap.size) (hk : ∀ k, k < w.heap.size + 1 + 1 + 1 + 1 → W'.heap[k]? = W.heap[k]?) : SoonB w S B best W' := by
  obtain ⟨h1, h2, h3, h4, h5⟩ := h
  refine ⟨(hk _ (by omega)).trans h1, (hk _ (by omega)).trans h2, (hk _ (by omega)).trans h3, (hk _ (by omega)).trans h4, ⟨a1.trans h5.os, a2.trans h5.tape, a3.trans h5.output, Nat.le_trans h5.size a4, fun k hk2 => (hk k (by omega)).trans (h5.block k hk2)⟩⟩
theorem SoonB.set_best {w W : World} {S B : Nat} {best : Nat × Nat} (h : SoonB w S B best W) (p q : Nat) : SoonB w S B (p, q) ((W.setCell ⟨w.heap.size + 1 + 1 + 1, 0, none⟩ (.int .i64 p)).setCell ⟨w.heap.size + 1 + 1 + 1, 1, none⟩ (.int .i64 q)) := by
  obtain ⟨h1, h2, h3, h4, h5⟩ := h
  have hk : ∀ k, k ≠ w.heap.size + 1 + 1 + 1 → ((W.setCell ⟨w.heap.size + 1 + 1 + 1, 0, none⟩ (.int .i64 p)).setCell ⟨w.heap.size + 1 + 1 + 1, 1, none⟩ (.int .i64 q)).heap[k]? = W.heap[k]? := fun k hk => by
    rw [Below.heap_setCell _ _ _ _ hk, Below.heap_setCell _ _ _ _ hk]
  exact ⟨(hk _ (by omega)).trans h1, (hk _ (by omega)).trans h2, (hk _ (by omega)).trans h3, pair_stored h4 _ _, (h5.setCell (p := ⟨w.heap.size + 1 + 1 + 1, 0, none⟩) (by show w.heap.size ≤ w.heap.size + 1 + 1 + 1; omega) _).setCell (p := ⟨w.heap.size + 1 + 1 + 1, 1, none⟩) (by show w.heap.size ≤ w.heap.size + 1 + 1 + 1; omega) _⟩
theorem one_block {w : World} {b : Nat} {t : TypeId} {v : Value} (h : w.heap[b]? = some (.cells #[v] t (0, 0))) : w.cell? ⟨b, 0, none⟩ = some v ∧ w.frozen? ⟨b, 0, none⟩ = false := by
  constructor <;> simp [World.cell?, World.frozen?, h]
theorem soon_start (w : World) (S B : Nat) : SoonB w S B (0, 0) ((((w.alloc (.cells #[.int .u64 S] 79)).alloc (.cells #[.map (some B)] 82)).alloc (.cells #[.int .i64 0, .int .i64 0] 88)).alloc (.cells #[.int .i64 0, .int .i64 0] 88)) := by
  have h1 := World.alloc_heap_new w (.cells #[.int .u64 S] 79)
  have h2 := World.alloc_heap_new (w.alloc (.cells #[.int .u64 S] 79)) (.cells #[.map (some B)] 82)
  have h3 := World.alloc_heap_new ((w.alloc (.cells #[.int .u64 S] 79)).alloc (.cells #[.map (some B)] 82)) (.cells #[.int .i64 0, .int .i64 0] 88)
  have h4 := World.alloc_heap_new (((w.alloc (.cells #[.int .u64 S] 79)).alloc (.cells #[.map (some B)] 82)).alloc (.cells #[.int .i64 0, .int .i64 0] 88)) (.cells #[.int .i64 0, .int .i64 0] 88)
  simp only [World.size_alloc] at h2 h3 h4
  refine ⟨?_, ?_, ?_, h4, bal (bal (bal (bal (Below.refl _ _) _) _) _) _⟩
  · rw [Below.heap_alloc _ _ _ (by simp only [World.size_alloc]; omega), Below.heap_alloc _ _ _ (by simp only [World.size_alloc]; omega), Below.heap_alloc _ _ _ (by simp only [World.size_alloc]; omega), h1]
  · rw [Below.heap_alloc _ _ _ (by simp only [World.size_alloc]; omega), Below.heap_alloc _ _ _ (by simp only [World.size_alloc]; omega), h2]
  · rw [Below.heap_alloc _ _ _ (by simp only [World.size_alloc]; omega), h3]
theorem dep_soon (w : World) (S B : Nat) {β : Type} (f : β → Nat × Nat) : Dep (w.heap.size + 1 + 1 + 1 + 1) (fun s W => SoonB w S B (f s) W) :=
  fun _ _ _ hs a1 a2 a3 a4 _ hk => hs.keep a1 a2 a3 a4 hk
/-- What the inner loop's rounds keep of the outer one's. -/
structure SoonI (w : World) (S B p bp N : Nat) (Xo : Blocks) (Wb : World) (best : Nat × Nat) (W : World) : Prop where
  boxes : SoonB w S B best W
  pbox : W.heap[bp]? = some (.cells #[.int .i64 p] 3 (0, 0))
  kf : KeepsFrom (w.heap.size + 1 + 1 + 1 + 1) Wb W
  kp : Keep w.heap.size Xo Wb W
theorem dep_soonI (w : World) (S B p bp N : Nat) (Xo : Blocks) (Wb : World) (hN : Wb.heap.size ≤ N) (hb : bp < N) (h4 : w.heap.size + 1 + 1 + 1 + 1 ≤ N) {β : Type} (f : β → Nat × Nat) : Dep N (fun s W => SoonI w S B p bp N Xo Wb (f s) W) := by
  rintro s W W' ⟨h1, h2, h3, h5⟩ a1 a2 a3 a4 a5 hk
  refine ⟨h1.keep a1 a2 a3 a4 fun k hk2 => hk k (by omega), (hk _ hb).trans h2, ?_, ⟨a1.trans h5.os, a2.trans h5.tape, a3.trans h5.output, Nat.le_trans h5.size a4, fun k hk2 hc => (hk k (by omega)).trans (h5.block k hk2 hc)⟩⟩
  exact ⟨Nat.le_trans h3.size a4, fun k o hk1 hk2 ho => (hk k (by have := (Array.getElem?_eq_some_iff.1 hk2).1; omega)).trans (h3.same k o hk1 hk2 ho)⟩
theorem kf_drewN (B : Nat) (W : World) (n : Nat) : KeepsFrom B W (W.drewN n) := kf_below (below_dr W n)
theorem SoonI.drew {w : World} {S B p bp N : Nat} {Xo : Blocks} {Wb W : World} {best : Nat × Nat} (h : SoonI w S B p bp N Xo Wb best W) (n : Nat) : SoonI w S B p bp N Xo Wb best (W.drewN n) :=
  ⟨h.boxes.keep rfl rfl rfl (Nat.le_refl _) fun _ _ => rfl, h.pbox, h.kf.trans (kf_drewN _ _ _), h.kp.trans (Keep.of_below (below_dr W n))⟩
theorem SoonI.set_best {w : World} {S B p bp N : Nat} {Xo : Blocks} {Wb W : World} {best : Nat × Nat} (h : SoonI w S B p bp N Xo Wb best W) (hX : ¬ Xo (w.heap.size + 1 + 1 + 1)) (hb : bp ≠ w.heap.size + 1 + 1 + 1) (a d : Nat) :
    SoonI w S B p bp N Xo Wb (a, d) ((W.setCell ⟨w.heap.size + 1 + 1 + 1, 0, none⟩ (.int .i64 a)).setCell ⟨w.heap.size + 1 + 1 + 1, 1, none⟩ (.int .i64 d)) := by
  refine ⟨h.boxes.set_best a d, ?_, (h.kf.trans (kf_set _ _ _ _)).trans (kf_set _ _ _ _), (h.kp.trans (keep_set_at _ _ _ _ (by omega) hX)).trans (keep_set_at _ _ _ _ (by omega) hX)⟩
  rw [Below.heap_setCell _ _ _ _ hb, Below.heap_setCell _ _ _ _ hb, h.pbox]
set_option maxRecDepth 100000 in
set_option maxHeartbeats 4000000 in
theorem soonest_any (m : List (List Int)) (S B : Nat) (w : World) (hT : Tab w) (hv : validM m = true) (hS : S < 2 ^ m.length) (hL : LenMap m w B) (hall : ∀ p q, p < q → q < m.length → ∃ k, mergeP m p q k) :
    Calls Tryd.prog 69 #[.int .u64 S, .map (some B)] w fun e w' => e = .returned (.agg #[.int .i64 ((soonOf m (prodL (elems S))).1 : Nat), .int .i64 ((soonOf m (prodL (elems S))).2 : Nat)]) ∧ Below w.heap.size w w' := by
  obtain ⟨p1, p2, p3, p4, -⟩ := valid_parts hv
  have hS64 : S < 2 ^ 64 := Nat.lt_of_lt_of_le hS (Nat.pow_le_pow_right (by decide) (by omega))
  have hfo := follows
  refine (callsIn_wide (n := 0)).1 ?_
  refine callsIn_of_wp_marks Tryd.func69 rfl trivial ?_ rfl
  simp only [Tryd.ntmps69, List.size_toArray, List.length_cons, List.length_nil, Nat.reduceAdd, Nat.reduceSub, Array.replicate_succ, Array.replicate_zero, List.push_toArray, List.append_toArray, List.nil_append, List.cons_append]
  gi_wp2
  have hst := soon_start w S B
  have hsz : ((((w.alloc (.cells #[.int .u64 S] 79)).alloc (.cells #[.map (some B)] 82)).alloc (.cells #[.int .i64 0, .int .i64 0] 88)).alloc (.cells #[.int .i64 0, .int .i64 0] 88)).heap.size = w.heap.size + 1 + 1 + 1 + 1 := by simp
  generalize ((((w.alloc (.cells #[.int .u64 S] 79)).alloc (.cells #[.map (some B)] 82)).alloc (.cells #[.int .i64 0, .int .i64 0] 88)).alloc (.cells #[.int .i64 0, .int .i64 0] 88)) = w1 at *
  have hT1 := hT.on hst.below
  have hstI := stable_dep (dep_soon w S B (fun pre : List Nat => soonOf m (seenQ (elems S) pre)))
  rw [← hsz] at hstI
  refine range_law2 (gf := 72) (fb := #[.int .u64 S]) (lb := #[]) rfl (enters_of Tryd.func72 (by kernel_rfl) rfl)
    (All_seq S hS64 w.heap.size hT.lt w1 (by omega) hT1) (fun _ _ _ _ _ _ => trivial) (by omega) (Below.refl _ _) (fun _ => rfl)
    (fun X pre W => ((∀ k, X k → w1.heap.size ≤ k) ∧ w1.heap.size ≤ W.heap.size) ∧ SoonB w S B (soonOf m (seenQ (elems S) pre)) W)
    (fun _ _ _ _ => False) hstI (fun _ _ _ _ _ _ hs _ _ _ _ _ _ => hs) ⟨⟨fun _ h => h.elim, Nat.le_refl _⟩, hst⟩
    (fun X p a' W => ∃ bp, a' = { tmps := #[.int .u64 S, .map (some B), .pointer (some ⟨w.heap.size, 0, none⟩), .pointer (some ⟨w.heap.size + 1, 0, none⟩), .pointer (some ⟨w.heap.size + 1 + 1, 0, none⟩), .pointer (some ⟨w.heap.size + 1 + 1 + 1, 0, none⟩), .pointer (some ⟨bp, 0, none⟩), undef, .int .u64 S, .func (.func 72) #[.int .u64 S] #[], .int .i64 p, undef, undef, undef, undef, undef, undef, undef, undef, undef, undef, undef, undef, undef, undef, undef, undef, undef, undef, undef, undef, undef, undef, undef, undef, undef, undef], defers := [] } ∧
      W.heap[bp]? = some (.cells #[.int .i64 p] 3 (0, 0)) ∧ w1.heap.size ≤ bp ∧ ¬ X bp)
    ?ax ?assign ?body ?done ?stop
  case ax =>
    rintro X p a' W l o o' ⟨bp, h1, h2, h3, h4⟩ _ hl hc
    refine ⟨bp, h1, (World.putObj_heap_other (fun e => ?_)).trans h2, h3, h4⟩
    subst e
    rw [hl] at h2
    cases h2
    cases hc
  case assign =>
    intro l X pre p W K hXs hi hK
    obtain ⟨⟨hX1, hX2⟩, hB⟩ := hi
    gi_wp2
    refine hK _ _ (kf_below (bal (Below.refl _ _) _)) (Keep.of_below (bal (Below.refl _ _) _)) ⟨⟨hX1, by simp; omega⟩, hB.keep rfl rfl rfl (by simp) fun k hk => Below.heap_alloc _ _ _ (by omega)⟩ ⟨_, rfl, ?_, hX2, fun h => by have := hXs _ h; omega⟩
    exact World.alloc_heap_new _ _
  case body =>
    rintro l X pre p a' Wb hl hrec hXl hXs ⟨⟨hX1, hX2⟩, hB⟩ _ ⟨bp, rfl, hpb, hbp1, hbp2⟩ hsp
    obtain ⟨c1, -⟩ := one_block hB.set
    gi_wp2
    have hbl := (Array.getElem?_eq_some_iff.1 hpb).1
    have hTb := hT.on hB.below
    have hstJ := stable_dep (dep_soonI w S B p bp Wb.heap.size X Wb (Nat.le_refl _) hbl (by omega) (fun preI : List Nat => soonOf m (seenQ (elems S) pre ++ preI.map fun q => (p, q))))
    refine range_law_in (gf := 72) (fb := #[.int .u64 S]) (lb := #[]) hrec rfl (enters_of Tryd.func72 (by kernel_rfl) rfl)
      (All_seq S hS64 w.heap.size hT.lt Wb (by omega) hTb) (fun _ _ _ _ _ _ => trivial) (by omega) (Below.refl _ _) (fun _ => rfl)
      (fun Y preI W => ((∀ k, Y k → Wb.heap.size ≤ k) ∧ Wb.heap.size ≤ W.heap.size) ∧ SoonI w S B p bp Wb.heap.size X Wb (soonOf m (seenQ (elems S) pre ++ preI.map fun q => (p, q))) W)
      (fun _ _ _ _ => False) hstJ (fun _ _ _ _ _ _ hs _ _ _ _ _ _ => hs) ⟨⟨fun _ h => h.elim, Nat.le_refl _⟩, by rw [List.map_nil, List.append_nil]; exact ⟨hB, hpb, KeepsFrom.refl _ _, Keep.refl _ _ _⟩⟩
      (fun q a' _ => a' = { tmps := #[.int .u64 S, .map (some B), .pointer (some ⟨w.heap.size, 0, none⟩), .pointer (some ⟨w.heap.size + 1, 0, none⟩), .pointer (some ⟨w.heap.size + 1 + 1, 0, none⟩), .pointer (some ⟨w.heap.size + 1 + 1 + 1, 0, none⟩), .pointer (some ⟨bp, 0, none⟩), .int .i64 q, .int .u64 S, .func (.func 72) #[.int .u64 S] #[], .int .i64 p, .int .u64 S, .func (.func 72) #[.int .u64 S] #[], .int .i64 q, undef, undef, undef, undef, undef, undef, undef, undef, undef, undef, undef, undef, undef, undef, undef, undef, undef, undef, undef, undef, undef, undef, undef], defers := [] })
      (fun _ _ _ _ _ _ _ hs _ _ _ _ _ _ => hs) ?assign2 ?body2 ?done2 ?stop2
    case assign2 =>
      intro l' Y preI q W K hi hK
      gi_wp2
      exact hK _ _ (KeepsFrom.refl _ _) (Keep.refl _ _ _) hi rfl
    case body2 =>
      rintro l' Y preI q a' W hl' hrec' hYl hYs ⟨⟨hY1, hY2⟩, hJ⟩ _ rfl hspq
      obtain ⟨hSB, hpbW, hkf, hkp⟩ := hJ
      have hq : q < m.length := elems_lt hS (hspq.subset (by simp))
      have hp : p < m.length := elems_lt hS (hsp.subset (by simp))
      have hQ : ∀ e ∈ seenQ (elems S) pre ++ preI.map (fun q => (p, q)), e.2 < m.length := by
        intro e he
        rcases List.mem_append.1 he with h1 | h1
        · obtain ⟨a, _, h2⟩ := List.mem_flatMap.1 h1
          obtain ⟨d, hd, rfl⟩ := List.mem_map.1 h2
          exact elems_lt hS hd
        · obtain ⟨d, hd, rfl⟩ := List.mem_map.1 h1
          exact elems_lt hS (hspq.subset (by simp [hd]))
      have hok := soonOf_ok m (seenQ (elems S) pre ++ preI.map fun q => (p, q))
      have hsn := soonOf_snoc m (seenQ (elems S) pre ++ preI.map fun q => (p, q)) (p, q)
      rw [show seenQ (elems S) pre ++ preI.map (fun q => (p, q)) ++ [(p, q)] = seenQ (elems S) pre ++ (preI ++ [q]).map (fun q => (p, q)) from by simp] at hsn
      have Hsn := hid hsn
      obtain ⟨bst, hbst⟩ : ∃ b, soonOf m (seenQ (elems S) pre ++ preI.map fun q => (p, q)) = b := ⟨_, rfl⟩
      rw [hbst] at hSB hok
      have Hbst := hid hbst
      have HI := hid (fun nq => SoonI.drew (N := Wb.heap.size) ⟨hSB, hpbW, hkf, hkp⟩ nq)
      have HLD := hid (fun nq => show LenMap m (W.drewN nq) B from (hL.below (hSB.below)).below (below_dr W nq))
      obtain ⟨m1, -⟩ := one_block hSB.map
      obtain ⟨pb1, -⟩ := one_block hpbW
      have hXn : ¬ X (w.heap.size + 1 + 1 + 1) := fun h => by have := hX1 _ h; omega
      have hYn : ¬ Y (w.heap.size + 1 + 1 + 1) := fun h => by have := hY1 _ h; omega
      have hWl := hSB.below.size
      obtain ⟨b1, b2⟩ := bst
      obtain ⟨t1, t2, t3, t4⟩ := pair_block hSB.best
      simp only at t1 t2
      have Hend := hid (fun nq => show Keep w.heap.size Y W (((W.drewN nq).setCell ⟨w.heap.size + 1 + 1 + 1, 0, none⟩ (.int .i64 p)).setCell ⟨w.heap.size + 1 + 1 + 1, 1, none⟩ (.int .i64 q)) from ((Keep.of_below (below_dr W nq)).trans (keep_set_at _ _ _ _ (by omega) hYn)).trans (keep_set_at _ _ _ _ (by omega) hYn))
      have Hkf := hid (fun nq => show KeepsFrom Wb.heap.size W (((W.drewN nq).setCell ⟨w.heap.size + 1 + 1 + 1, 0, none⟩ (.int .i64 p)).setCell ⟨w.heap.size + 1 + 1 + 1, 1, none⟩ (.int .i64 q)) from ((kf_drewN _ _ _).trans (kf_set _ _ _ _)).trans (kf_set _ _ _ _))
      have Hset := hid (fun nq => (HI.out nq).set_best hXn (by omega) p q)
      have HsetEnd := hid (fun (hs : soonStep m (b1, b2) (p, q) = (p, q)) => show soonOf m (seenQ (elems S) pre ++ (preI ++ [q]).map fun q => (p, q)) = (p, q) from by rw [Hsn.out, Hbst.out, hs])
      have HsameEnd := hid (fun (hs : soonStep m (b1, b2) (p, q) = (b1, b2)) => show soonOf m (seenQ (elems S) pre ++ (preI ++ [q]).map fun q => (p, q)) = (b1, b2) from by rw [Hsn.out, Hbst.out, hs])
      clear hsn hbst hSB hpbW hkf hkp hspq hYs hrec'
      dsimp only
      by_cases hlt : p < q
      · have hlt2 : decide (p < q) = true := by simp; omega
        have hlt3 : (p : Int) < q := by omega
        have hYsz : ∀ nq, Wb.heap.size ≤ (((W.drewN nq).setCell ⟨w.heap.size + 1 + 1 + 1, 0, none⟩ (.int .i64 p)).setCell ⟨w.heap.size + 1 + 1 + 1, 1, none⟩ (.int .i64 q)).heap.size := fun nq => by simp [World.setCell]; omega
        have HYsz := hid hYsz
        have hng := noGuard1
        have heq := fun a b c d w => equalIn_pair Tryd.underlying88 a b c d w
        clear hYsz
        rcases hok with ⟨hb0, -⟩ | ⟨hbm, hb12, -⟩
        · simp only [Prod.mk.injEq] at hb0
          obtain ⟨rfl, rfl⟩ := hb0
          have Hs := hid (HsetEnd.out (by unfold soonStep; rw [if_pos ⟨hlt, .inl rfl⟩]))
          clear HsameEnd HsetEnd hQ
          gi_wp2
          refine wp_region_round l' (by kernel_rfl) (by kernel_rfl) (by kernel_rfl) ?_
          repeat (go_big_quiet_step (fail))
          refine wpQuiet_nil ?_
          intro nq
          gi_wp2
          exact ⟨Hkf.out nq, Hend.out nq, ⟨hY1, HYsz.out nq⟩, by rw [Hs.out]; exact Hset.out nq⟩
        · have hb2 := hQ _ hbm
          simp only at hb2 hb12
          obtain ⟨k1, hk1⟩ := hall p q hlt hq
          obtain ⟨j1, -, hd1⟩ := mdist_some hk1
          obtain ⟨k2, hk2⟩ := hall b1 b2 hb12 hb2
          obtain ⟨j2, -, hd2⟩ := mdist_some hk2
          have hf1 := fun nq => (HLD.out nq).find hv (Nat.le_of_lt hlt) hq hd1
          have hf2 := fun nq => (HLD.out nq).find hv (Nat.le_of_lt hb12) hb2 hd2
          have hz1 : ((b2 : Int) == 0) = false := by rw [beq_eq_false_iff_ne]; omega
          have hz2 : (((b1 : Int) == 0) && ((b2 : Int) == 0)) = false := by rw [hz1, Bool.and_false]
          have hl1 := mlen_of hv hp hq hd1
          have hl2 := mlen_of hv (by omega) hb2 hd2
          by_cases hj : j1 < j2
          · have hj2 : decide (j1 < j2) = true := by simp; omega
            have hj3 : (j1 : Int) < j2 := by omega
            have Hs := hid (HsetEnd.out (by unfold soonStep; rw [if_pos ⟨hlt, .inr (by simp only; rw [hl1, hl2]; omega)⟩]))
            clear HsameEnd HsetEnd hQ hbm hl1 hl2 hk1 hk2 hd1 hd2
            gi_wp2
            refine wp_region_round l' (by kernel_rfl) (by kernel_rfl) (by kernel_rfl) ?_
            repeat (go_big_quiet_step (fail))
            refine wpQuiet_nil ?_
            intro nq
            gi_wp2
            exact ⟨Hkf.out nq, Hend.out nq, ⟨hY1, HYsz.out nq⟩, by rw [Hs.out]; exact Hset.out nq⟩
          · have hj2 : decide (j1 < j2) = false := by simp; omega
            have hj3 : ¬ (j1 : Int) < j2 := by omega
            have Hs := hid (HsameEnd.out (by unfold soonStep; rw [if_neg (fun h => by
              rcases h.2 with h1 | h1
              · simp only [Prod.mk.injEq] at h1; omega
              · simp only at h1; rw [hl1, hl2] at h1; omega)]))
            clear HsameEnd HsetEnd hQ hbm hl1 hl2 hk1 hk2 hd1 hd2
            gi_wp2
            refine wp_region_round l' (by kernel_rfl) (by kernel_rfl) (by kernel_rfl) ?_
            repeat (go_big_quiet_step (fail))
            refine wpQuiet_nil ?_
            intro nq
            gi_wp2
            exact ⟨kf_drewN _ _ _, Keep.of_below (below_dr W nq), ⟨hY1, hY2⟩, by rw [Hs.out]; exact HI.out nq⟩
      · have hnl : decide ((p : Int) < q) = false := by simp; omega
        have hnl2 : decide (p < q) = false := by simp; omega
        have hnl3 : ¬ (p : Int) < q := by omega
        have Hs := hid (HsameEnd.out (by unfold soonStep; rw [if_neg (fun h => hlt h.1)]))
        clear HsameEnd HsetEnd hok hQ
        gi_wp2
        refine wp_region_round l' (by kernel_rfl) (by kernel_rfl) (by kernel_rfl) ?_
        repeat (go_big_quiet_step (fail))
        refine wpQuiet_nil ?_
        intro nq
        gi_wp2
        exact ⟨kf_drewN _ _ _, Keep.of_below (below_dr W nq), ⟨hY1, hY2⟩, by rw [Hs.out]; exact HI.out nq⟩
    case done2 =>
      rintro Y xs W rfl ⟨⟨hY1, hY2⟩, hSB, hpbW, hkf, hkp⟩
      gi_wp2
      refine ⟨?_, ?_, ⟨hX1, by omega⟩, ?_⟩
      · rw [hsz]; exact hkf
      · exact hkp
      · rw [seenQ_snoc]; exact hSB
    case stop2 =>
      rintro Y c preI W _ h
      exact h.elim
  case done =>
    rintro D X xs W hD rfl ⟨⟨hX1, hX2⟩, hB⟩ hK
    rw [seenQ_all] at hB
    obtain ⟨r, hr⟩ : ∃ r, soonOf m (prodL (elems S)) = r := ⟨_, rfl⟩
    rw [hr] at hB
    have Hr := hid hr
    clear hr
    obtain ⟨r1, r2⟩ := r
    obtain ⟨c1, c2, -, -⟩ := pair_block hB.best
    obtain ⟨-, -, c3, c4⟩ := pair_block hB.res
    obtain ⟨d1, d2, -, -⟩ := pair_block hB.res
    gi_wp2
    have hst2 := pair_stored hB.res (.int .i64 (r1 : Nat)) (.int .i64 (r2 : Nat))
    have hBs := (hB.below.setCell (p := ⟨w.heap.size + 1 + 1, 0, none⟩) (by show w.heap.size ≤ w.heap.size + 1 + 1; omega) (.int .i64 (r1 : Nat))).setCell (p := ⟨w.heap.size + 1 + 1, 1, none⟩) (by show w.heap.size ≤ w.heap.size + 1 + 1; omega) (.int .i64 (r2 : Nat))
    have hDn : D ≠ w.heap.size + 1 + 1 := by omega
    have hK2 : ((W.setCell ⟨w.heap.size + 1 + 1, 0, none⟩ (.int .i64 (r1 : Nat))).setCell ⟨w.heap.size + 1 + 1, 1, none⟩ (.int .i64 (r2 : Nat))).heap[D]? = some (.deferred (some [])) := by
      rw [Below.heap_setCell _ _ _ _ hDn, Below.heap_setCell _ _ _ _ hDn, hK]
    generalize (W.setCell ⟨w.heap.size + 1 + 1, 0, none⟩ (.int .i64 (r1 : Nat))).setCell ⟨w.heap.size + 1 + 1, 1, none⟩ (.int .i64 (r2 : Nat)) = Y at *
    have hYb := belowK_b (w := w) (Nat.le_refl _) Y D (.deferred (some [])) (.deferred none) (by omega) hK2 rfl rfl
    have hst3 : (Y.putObj D (.deferred none)).heap[w.heap.size + 1 + 1]? = some (.cells #[.int .i64 (r1 : Nat), .int .i64 (r2 : Nat)] 88 (0, 0)) := (World.putObj_heap_other (by omega)).trans hst2
    obtain ⟨e1, e2, -, -⟩ := pair_block hst3
    refine ⟨by simp, .inl ⟨_, _, rfl, run_takeDeferred hK2, ?_⟩⟩
    refine ⟨.agg #[.int .i64 (r1 : Nat), .int .i64 (r2 : Nat)], by simp [results, Tryd.results69, go_sem, e1, e2], by rw [Hr.out], hBs.trans hYb⟩
  case stop =>
    rintro D X c pre W _ _ h _
    exact h.elim
end Go.Proofs.YtlpfglkopnmlnaaDoor
namespace Go.Proofs.YtlpfglkopnmlnaaDoor
open Go.RowKit Go.Shelf
/-- The word that merges the pair that is merged soonest. -/
def stepW (m : List (List Int)) (S : Nat) : List Int := mW m (mlen m (soonOf m (prodL (elems S))).1 (soonOf m (prodL (elems S))).2).toNat (soonOf m (prodL (elems S))).1 (soonOf m (prodL (elems S))).2
/-- Word by word, until one state is left. -/
def greedyW (m : List (List Int)) : Nat → Nat → List Int
  | 0, _ => []
  | f + 1, S => if (elems S).length ≤ 1 then [] else stepW m S ++ greedyW m f (imgWord m S (stepW m S))
/-- All pairs of states are merged by some word. -/
def allMerge (m : List (List Int)) : Prop := ∀ p q, p < q → q < m.length → ∃ k, mergeP m p q k
theorem elems_nodup (S : Nat) : (elems S).Nodup := List.Pairwise.imp (fun {a b} h => Nat.ne_of_lt h) (elems_sorted S)
theorem greedy_step {m : List (List Int)} (hv : validM m = true) (hall : allMerge m) {S : Nat} (hS : S < 2 ^ m.length) (h2 : 2 ≤ (elems S).length) :
    ∃ t r, soonOf m (prodL (elems S)) = r ∧ r.1 ≤ r.2 ∧ r.2 < m.length ∧ mdist m r.1 r.2 t ∧ stepW m S = mW m t r.1 r.2 ∧ (stepW m S).length = t ∧ (stepW m S).all (inB 0 ((letters m : Int) - 1)) = true ∧
      2 * t ≤ (m.length - (elems S).length + 1) * (m.length - (elems S).length + 2) ∧ imgWord m S (stepW m S) < 2 ^ m.length ∧ (elems (imgWord m S (stepW m S))).length < (elems S).length ∧ 1 ≤ (elems (imgWord m S (stepW m S))).length ∧ (elems S).length ≤ m.length := by
  have hm : m.length ≤ 64 := by have := (valid_parts hv).2.1; omega
  have hlt : ∀ c ∈ elems S, c < m.length := fun c hc => elems_lt hS hc
  obtain ⟨t, a1, a2, a3, a4, a5⟩ := greedy_pair hv (elems_nodup S) hlt h2 hall
  have b1 := hlt _ a1
  have b2 := hlt _ a2
  have e1 : stepW m S = mW m t (soonOf m (prodL (elems S))).1 (soonOf m (prodL (elems S))).2 := by
    unfold stepW
    rw [mlen_of hv b1 b2 a4]
    rfl
  obtain ⟨c1, c2, c3⟩ := mW_ok hv t _ _ b1 b2 a4
  rw [← e1] at c1 c2 c3
  have hI := imgWord_lt hv (stepW m S) S hS c1
  have hmem : ∀ s, s ∈ elems S → runM m s (stepW m S) ∈ elems (imgWord m S (stepW m S)) := fun s hs => by
    have hb := (mem_elems _ _).1 hs
    have h1 := (imgWord_mem hv (stepW m S) S (runM m s (stepW m S)) hS c1).2 ⟨s, hlt s hs, hb.2, rfl⟩
    have hr := runM_lt hv (stepW m S) s (hlt s hs) c1
    exact (mem_elems _ _).2 ⟨by omega, h1⟩
  refine ⟨t, _, rfl, Nat.le_of_lt a3, b2, a4, e1, c2, c1, a5, hI, ?_, List.length_pos_of_mem (hmem _ a1), ?_⟩
  · refine image_less (u := stepW m S) (m := m) (elems_nodup _) (fun x hx => ?_) a1 a2 (Nat.ne_of_lt a3) c3
    obtain ⟨s, h1, h2, h3⟩ := (imgWord_mem hv (stepW m S) S x hS c1).1 ((mem_elems _ _).1 hx).2
    exact ⟨s, (mem_elems _ _).2 ⟨by omega, h2⟩, h3⟩
  · have := nodup_sub (A := elems S) (B := List.range m.length) (elems_nodup S) (fun x hx => List.mem_range.2 (hlt x hx))
    simpa using this
theorem greedy_end {m : List (List Int)} {S : Nat} (h : (elems S).length ≤ 1) : ∀ f, greedyW m f S = []
  | 0 => rfl
  | f + 1 => by rw [greedyW, if_pos h]
theorem greedy_more {m : List (List Int)} {S f : Nat} (h : ¬ (elems S).length ≤ 1) : greedyW m (f + 1) S = stepW m S ++ greedyW m f (imgWord m S (stepW m S)) := by rw [greedyW, if_neg h]
/-- The word is one, leads to one state, and is short. -/
theorem greedy_ok {m : List (List Int)} (hv : validM m = true) (hall : allMerge m) : ∀ f S len, S < 2 ^ m.length → 1 ≤ (elems S).length → (elems S).length ≤ f + 1 →
    6 * len ≤ (m.length - (elems S).length) * (m.length - (elems S).length + 1) * (m.length - (elems S).length + 2) →
    (greedyW m f S).all (inB 0 ((letters m : Int) - 1)) = true ∧ (elems (imgWord m S (greedyW m f S))).length = 1 ∧ 6 * (len + (greedyW m f S).length) ≤ (m.length - 1) * (m.length - 1 + 1) * (m.length - 1 + 2)
  | 0, S, len, hS, h1, hf, hl => by
    have e : (elems S).length = 1 := by omega
    rw [e] at hl
    exact ⟨rfl, by simpa [greedyW, imgWord] using e, by simpa [greedyW] using hl⟩
  | f + 1, S, len, hS, h1, hf, hl => by
    by_cases h : (elems S).length ≤ 1
    · have e : (elems S).length = 1 := by omega
      rw [e] at hl
      rw [greedy_end h]
      exact ⟨rfl, by simpa [imgWord] using e, by simpa using hl⟩
    · obtain ⟨t, r, b1, b2, b3, b4, b5, b6, b7, b8, b9, b10, b11, b12⟩ := greedy_step hv hall hS (by omega)
      have hs := steps_sum (k' := (elems (imgWord m S (stepW m S))).length) hl b8 b10 b12
      obtain ⟨c1, c2, c3⟩ := greedy_ok hv hall f (imgWord m S (stepW m S)) (len + t) b9 b11 (by omega) hs
      rw [greedy_more h]
      refine ⟨by rw [List.all_append, b7, c1]; rfl, by rw [imgWord_append]; exact c2, ?_⟩
      rw [List.length_append, b6]
      omega
/-- The whole word, from all states. -/
def resetW (m : List (List Int)) : List Int := greedyW m m.length (2 ^ m.length - 1)
theorem elems_below (n : Nat) (hn : n ≤ 64) : elems (2 ^ n - 1) = List.range n := by
  rw [elems_range (n := n) (by have := Nat.two_pow_pos n; omega) hn]
  refine List.filter_eq_self.2 fun a ha => ?_
  rw [testBit_below]
  simpa using ha
theorem resetW_ok {m : List (List Int)} (hv : validM m = true) (hall : allMerge m) :
    (resetW m).all (inB 0 ((letters m : Int) - 1)) = true ∧ (elems (imgWord m (2 ^ m.length - 1) (resetW m))).length = 1 ∧ (resetW m).length ≤ (m.length * m.length * m.length - m.length) / 6 := by
  obtain ⟨p1, p2, -⟩ := valid_parts hv
  have hel := elems_below m.length (by omega)
  have hpow := Nat.two_pow_pos m.length
  obtain ⟨c1, c2, c3⟩ := greedy_ok hv hall m.length (2 ^ m.length - 1) 0 (by omega) (by rw [hel]; simpa using p1) (by rw [hel]; simp) (Nat.zero_le _)
  exact ⟨c1, c2, steps_most p1 (by rw [Nat.zero_add] at c3; exact c3)⟩
end Go.Proofs.YtlpfglkopnmlnaaDoor
namespace Go.Proofs.YtlpfglkopnmlnaaDoor
open Go.RowKit Go.Shelf
theorem LenMap.len {m : List (List Int)} {w : World} {B : Nat} (hL : LenMap m w B) : ∃ c : Nat, (∀ ty, (Builtin.len_ #[82] ty #[.map (some B)]).run Tryd.prog w = .ok (.int .i64 c) w) ∧ (m.length * (m.length + 1) ≤ 2 * c ↔ allMerge m) ∧ c ≤ 3600 := by
  obtain ⟨n, V, T, c, h1, h2, h3, h4⟩ := hL
  exact ⟨c, fun ty => h1.len Tryd.underlying82 ty, h3, h4⟩
set_option maxRecDepth 100000 in
set_option maxHeartbeats 1000000 in
theorem Reset_none (v : Value) (m : List (List Int)) (w : World) (h : Rows w v m) (hv : validM m = true) (hno : ¬ allMerge m) :
    Calls Tryd.prog 29 #[.agg #[v]] w (NoWord w 4) := by
  obtain ⟨p1, p2, -⟩ := valid_parts hv
  obtain ⟨A, cap, rfl, hml, -⟩ := id h
  have hX := bal (Below.refl _ w) (.cells #[.slice A m.length cap] 24)
  have Hx := hid hX
  have hbx := (Boxed.new w 24 (.slice A m.length cap)).cell
  go_enter Tryd.func29, Tryd.ntmps29
  go_wp2_with fail
  generalize w.alloc (.cells #[.slice A m.length cap] 24) = X at *
  clear hX
  have hX := Hx.out
  have hr := h.below hX
  refine (Valid_bool _ m true _ hr hv).mono ?_
  rintro e w1 ⟨rfl, h1⟩
  have e0 := (h1.cell (p := ⟨w.heap.size, 0, none⟩) (World.block_lt_of_cell? _ _ hbx)).trans hbx
  have hr1 := hr.below h1
  go_wp2_with fail
  refine (mergers_any _ m _ hr1 hv).mono ?_
  rintro e w2 ⟨B, rfl, hL, h2⟩
  obtain ⟨c, hc, hiff, hc2⟩ := hL.len
  have HB := hid (btr (btr hX h1) h2)
  have hlt : 2 * c < m.length * (m.length + 1) := Nat.lt_of_not_le fun e => hno (hiff.1 e)
  have hmm : m.length * (m.length + 1) ≤ 60 * 61 := Nat.mul_le_mul p2 (by omega)
  have hK : (m.length : Int) * ((m.length : Int) + 1) = ((m.length * (m.length + 1) : Nat) : Int) := by push_cast; rfl
  have hb1 : (m.length : Int) * ((m.length : Int) + 1) ≤ 3660 := by rw [hK]; omega
  have hb0 : 0 ≤ (m.length : Int) * ((m.length : Int) + 1) := by rw [hK]; omega
  have ht : (c : Int) < (m.length : Int) * ((m.length : Int) + 1) / 2 := by
    have hm2 : m.length * (m.length + 1) % 2 = 0 := by
      rw [Nat.mul_mod]
      rcases Nat.mod_two_eq_zero_or_one m.length with h | h
      · rw [h]; simp
      · rw [Nat.add_mod, h]
    rw [hK]; omega
  clear hbx hr h Hx e0 hL h1 h2 hX hr1 hK hlt hiff hmm
  go_wp2
  go_ret2
  exact ⟨rfl, HB.out⟩
/-- The measure of the search: how many states are left. -/
def setLeft (v : Value) : Nat := (elems (intOf v).toNat).length
theorem imgWord_take (m : List (List Int)) (S : Nat) (u : List Int) {k : Nat} (hk : k < u.length) {x : Nat} (hx : u.getD k 0 = (x : Int)) : imgWord m S (u.take (k + 1)) = imgTo m (x : Int) (elems (imgWord m S (u.take k))) := by
  rw [imgWord_snoc m S u k hk, hx]; rfl
set_option maxRecDepth 100000 in
set_option maxHeartbeats 4000000 in
theorem Reset_ok (v : Value) (m : List (List Int)) (w : World) (hT : Tab w) (h : Rows w v m) (hv : validM m = true) (hall : allMerge m) :
    Calls Tryd.prog 29 #[.agg #[v]] w (WordIs w (resetW m)) := by
  obtain ⟨i0, hi, hz0, hz1, hz2⟩ := info_parts infoIntE
  obtain ⟨p1, p2, p3, p4, -⟩ := valid_parts hv
  obtain ⟨A, cap, rfl, hml, -⟩ := id h
  have hX := bal (Below.refl _ w) (.cells #[.slice A m.length cap] 24)
  have Hx := hid hX
  have hbx := (Boxed.new w 24 (.slice A m.length cap)).cell
  have hXs : (w.alloc (.cells #[.slice A m.length cap] 24)).heap.size = w.heap.size + 1 := World.size_alloc _ _
  go_enter Tryd.func29, Tryd.ntmps29
  go_wp2_with fail
  generalize w.alloc (.cells #[.slice A m.length cap] 24) = X at *
  clear hX
  have hX := Hx.out
  have hr := h.below hX
  refine (Valid_bool _ m true _ hr hv).mono ?_
  rintro e w1 ⟨rfl, h1⟩
  have e0 := (h1.cell (p := ⟨w.heap.size, 0, none⟩) (World.block_lt_of_cell? _ _ hbx)).trans hbx
  have hr1 := hr.below h1
  go_wp2_with fail
  refine (mergers_any _ m _ hr1 hv).mono ?_
  rintro e w2 ⟨B, rfl, hL, h2⟩
  obtain ⟨c, hc, hiff, hc2⟩ := hL.len
  have HB := hid (btr (btr hX h1) h2)
  have e1 := (h2.cell (p := ⟨w.heap.size, 0, none⟩) (World.block_lt_of_cell? _ _ e0)).trans e0
  have hlt : m.length * (m.length + 1) ≤ 2 * c := hiff.2 hall
  have hmm : m.length * (m.length + 1) ≤ 60 * 61 := Nat.mul_le_mul p2 (by omega)
  have hK : (m.length : Int) * ((m.length : Int) + 1) = ((m.length * (m.length + 1) : Nat) : Int) := by push_cast; rfl
  have hb1 : (m.length : Int) * ((m.length : Int) + 1) ≤ 3660 := by rw [hK]; omega
  have hb0 : 0 ≤ (m.length : Int) * ((m.length : Int) + 1) := by rw [hK]; omega
  have ht : ¬ (c : Int) < (m.length : Int) * ((m.length : Int) + 1) / 2 := by rw [hK]; omega
  have hr2 := hr1.below h2
  have hT2 := hT.on HB.out
  have hw2 : w.heap.size < w2.heap.size := World.block_lt_of_cell? _ _ e1
  clear hbx hr h Hx e0 h1 h2 hX hr1 hK hlt hiff hmm hXs
  go_wp2_with (go_at_call 66; refine (Below_any m.length _ p2).mono ?_; rintro e w' ⟨rfl, rfl⟩)
  have hpow := Nat.two_pow_pos m.length
  have hpow2 : 2 ^ m.length ≤ 2 ^ 60 := Nat.pow_le_pow_right (by decide) p2
  have hel := elems_below m.length (by omega)
  have HRW := hid (show resetW m = greedyW m m.length (2 ^ m.length - 1) from rfl)
  have hrl := (resetW_ok hv hall).2.2
  have hcube : m.length * m.length * m.length ≤ 60 * 60 * 60 := Nat.mul_le_mul (Nat.mul_le_mul p2 p2) p2
  have hrl2 : (resetW m).length ≤ 36000 := by omega
  have hS0 : 2 ^ m.length - 1 < 2 ^ m.length := by omega
  have hE1 : 1 ≤ (elems (2 ^ m.length - 1)).length := by rw [hel]; simpa using p1
  have hE2 : (elems (2 ^ m.length - 1)).length ≤ m.length + 1 := by rw [hel]; simp
  generalize 2 ^ m.length - 1 = S0 at *
  generalize resetW m = RW at *
  clear hrl hcube hel hb1 hb0 ht hc
  go_loopw [6, 7] (fun rv sv wr => ∃ (S f : Nat) (pre : List Int), sv = .int .u64 (S : Nat) ∧ S < 2 ^ m.length ∧ 1 ≤ (elems S).length ∧ (elems S).length ≤ f + 1 ∧ RW = pre ++ greedyW m f S ∧ wr.ownsRow w2.heap.size 3 1 rv pre.length (pre.map fun x => .int .i64 x) ∧ Below w2.heap.size w2 wr ∧ wr.cell? ⟨w.heap.size, 0, none⟩ = some (.slice A m.length cap)) (fun _ sv _ => setLeft sv)
  case atStart => exact ⟨S0, m.length, [], rfl, hS0, hE1, hE2, HRW.out, World.ownsRow_nil _ _ _ _, Below.refl _ _, e1⟩
  case round =>
    clear e1 HRW hS0 hE1 hE2
    obtain ⟨S, f, pre, rfl, hS, hE1, hE2, hRW, hO, hB, hbx⟩ := hrel
    have hS64 : S < 18446744073709551616 := by omega
    have hbl := World.block_lt_of_cell? _ _ hbx
    by_cases hle : (elems S).length ≤ 1
    · have hng : ¬ (1 : Int) < (elems S).length := by omega
      have HO := hid (show wr.ownsRow w.heap.size 3 1 u6 RW.length (RW.map fun x => .int .i64 x) from by
        rw [hRW, greedy_end hle, List.append_nil]
        exact row_mono hO (by omega))
      have HBB := hid (btr HB.out hB)
      clear hO hRW
      go_wp2_with (go_at_call 67; refine (Size_any S _ hS64).mono ?_; rintro e w' ⟨rfl, rfl⟩)
      go_ret2
      exact ⟨_, rfl, HO.out, HBB.out⟩
    · have hng : (1 : Int) < (elems S).length := by omega
      obtain ⟨f, rfl⟩ : ∃ f', f = f' + 1 := ⟨f - 1, by omega⟩
      obtain ⟨t, r, b1, b2, b3, b4, b5, b6, b7, b8, b9, b10, b11, b12⟩ := greedy_step hv hall hS (by omega)
      have hgm := greedy_more (m := m) (f := f) hle
      rw [hgm] at hRW
      have hRl : pre.length + t ≤ 36000 := by
        rw [hRW, List.length_append, List.length_append, b6] at hrl2
        omega
      have ht0 : 1 ≤ t := by
        rcases Nat.eq_zero_or_pos t with e | e
        · subst e
          have hmz := mdist_zero.1 b4
          have hsk := soonOf_ok m (prodL (elems S))
          rw [b1] at hsk
          exfalso
          rcases hsk with ⟨_, h2⟩ | ⟨_, h2, _⟩
          · have hp0 := greedy_pair hv (elems_nodup S) (fun c hc => elems_lt hS hc) (by omega) hall
            obtain ⟨_, _, _, h4, _⟩ := hp0
            rw [b1] at h4
            omega
          · omega
        · exact e
      have hsoon := fun (w' : World) (hb : Below w2.heap.size w2 w') => soonest_any m S B w' (hT2.on hb) hv hS (hL.below hb) hall
      rw [b1] at hsoon
      have hmerg := fun (w' : World) (hb : Below w2.heap.size w2 w') => merger_any _ m r.1 r.2 t B w' (hr2.below hb) hv b2 b3 b4 (hL.below hb)
      rw [← b5] at hmerg
      have HSW := hid b6
      have HS7 := hid b7
      have HS9 := hid b9
      have H10 := hid b10
      have H11 := hid b11
      have HRw := hid hRW
      have HO := hid hO
      have HSN := hid hsoon
      have HMG := hid hmerg
      have hdef := hid (fun (k : Nat) (hk : k < (stepW m S).length) (x : Nat) (hx : (stepW m S).getD k 0 = (x : Int)) => imgWord_take m S (stepW m S) hk hx)
      obtain ⟨r1, r2⟩ := r
      clear hO hRW hgm b1 b4 b5 b6 b7 b8 b9 b10 b11 hsoon hmerg
      generalize hSWW : stepW m S = u at *
      have HSWW := hid hSWW
      clear hSWW
      simp only at b2 b3
      go_wp2_with (go_at_call 67; refine (Size_any S _ hS64).mono ?_; rintro e w' ⟨rfl, rfl⟩)
      have hBf := hid hB
      have hrw := hid (fun (w' : World) (hb : Below w2.heap.size w2 w') => hr2.below hb)
      go_region_held3 (fun w' => Below wr.heap.size wr w' ∧ w'.cell? ⟨w.heap.size, 0, none⟩ = some (.slice A m.length cap)) (exact held_one hbx (by first | exact below_dr wr 1 | assumption)) (first
        | (go_at_call 69; go_must (refine (HSN.out _ (btr hBf.out (by first | exact below_dr wr 1 | exact Below.refl _ _))).mono ?_; rintro e y1 ⟨rfl, hy1⟩; have k1 : Below wr.heap.size wr y1 := btr (by first | exact below_dr wr 1 | exact Below.refl _ _) hy1))
        | (go_at_call 68; go_must (refine (HMG.out _ (btr hBf.out k1)).mono ?_; rintro e y2 ⟨rv, rfl, ho, hy2⟩; have k2 : Below wr.heap.size wr y2 := btr k1 hy2; have HO2 := hid ho; have hk1 := k1.size; clear ho)))
      rename_i hheld
      obtain ⟨-, hbx2⟩ := hheld
      obtain ⟨g, gc, rfl⟩ := ownsRow_pos' HO2.out ht0
      have HK2 := hid k2
      clear hy1 hbx hB
      go_wp2_with fail
      go_loopw [7, 40] (fun sv kv wq => ∃ k : Nat, k ≤ t ∧ kv = .int .i64 (k : Nat) ∧ sv = .int .u64 (imgWord m S (u.take k) : Nat) ∧ imgWord m S (u.take k) < 2 ^ m.length ∧ Below y2.heap.size y2 wq) (fun _ kv _ => t - (intOf kv).toNat)
      case atStart => exact ⟨0, Nat.zero_le _, rfl, rfl, hS, Below.refl _ _⟩
      case round =>
        obtain ⟨k, hk, rfl, rfl, hSk, hBk⟩ := hrel
        have hbx3 := (hBk.cell (p := ⟨w.heap.size, 0, none⟩) (World.block_lt_of_cell? _ _ hbx2)).trans hbx2
        have hBw := btr hBf.out (btr HK2.out hBk)
        by_cases hkt : k < t
        · have hks : (k : Int) < t := by omega
          have hul : k < u.length := by rw [HSW.out]; exact hkt
          have hux := HS7.out
          have hin := inB_iff.1 (all_getD _ u 0 hux k hul)
          obtain ⟨x, hx⟩ := Int.eq_ofNat_of_zero_le hin.1
          have hcA : y2.cell? ⟨g, k, none⟩ = some (.int .i64 (u.getD k 0)) := by
            rw [HO2.out.cellAt k (by omega), getI_cell hul]
          rw [hx] at hcA
          have hcB := (hBk.cell (p := ⟨g, k, none⟩) (World.block_lt_of_cell? _ _ hcA)).trans hcA
          have hd := hdef.out k hul x hx
          have Hd := hid hd
          have hxl : x < letters m := by have := hin.2; rw [hx] at this; omega
          have hTk := hT2.on hBw
          have hrk := hr2.below hBw
          have hSk2 := hid (show imgTo m (x : Int) (elems (imgWord m S (u.take k))) < 2 ^ m.length from imgTo_lt m _ m.length _ (fun s hs => (nx_ok hv (elems_lt hSk hs) (by omega) (by omega)).1))
          clear hd hux hcA hbx2 hx
          generalize imgWord m S (u.take k) = Sk at *
          go_wp2_with fail
          refine (SetImage_any _ m Sk x _ hTk hrk hv hSk hxl).mono ?_
          rintro e w3 ⟨rfl, h3⟩
          have hB3 := hid (btr hBk h3)
          clear hbx3 hcB hTk hrk
          go_wp2
          go_roundw
          case rel => exact ⟨k + 1, by omega, by go_num, by rw [Hd.out], by rw [Hd.out]; exact hSk2.out, hB3.out⟩
          case measure => simp [intOf]; omega
        · obtain rfl : k = t := by omega
          have hks : ¬ (k : Int) < k := by omega
          have hut : u.take k = u := List.take_of_length_le (by rw [HSW.out]; exact Nat.le_refl _)
          rw [hut] at hSk ⊢
          have hOr := hid (ownsRow_same HO.out fun q hq => (btr HK2.out hBk).block q (HO.out.lt q hq).2)
          have hnews := hid (fun j x (hx : (u.map fun x => Value.int .i64 x)[j]? = some x) => show wr.cell? ((⟨g, 0, none⟩ : Addr).add j) = some x from by
            have h1 := World.ownsRow.cells HO2.out (g := g) rfl j x hx
            exact (hBk.cell (p := (⟨g, 0, none⟩ : Addr).add j) (World.block_lt_of_cell? _ _ h1)).trans h1)
          have hlu := hid (show (u.map fun x => Value.int .i64 x).length = k * 1 from by rw [List.length_map, HSW.out, Nat.mul_one])
          have hone := hid (show ∀ x ∈ (u.map fun x => Value.int .i64 x), x.oneCell' = true from fun x hx => by obtain ⟨y, _, rfl⟩ := List.mem_map.1 hx; rfl)
          have hBB := hid hBw
          have hbz := hBw.size
          have hlt6 := hid (fun q hq => (HO.out.lt q hq).1)
          clear hbx2
          go_wp2_with (at_builtin; refine wpList_append_own_at _ rfl _ _ 41 rfl w2.heap.size 3 i0 (.int .i64 0) 1 8 Tryd.underlying41 hi hz0 hz1 hz2 rfl (by decide) _ _ _ rfl hOr.out ⟨g, 0, none⟩ k gc (u.map fun x => .int .i64 x) rfl hlu.out hnews.out hone.out (by unfold maxLen; omega) (by omega) (by omega) ?_; intro v' w5 hown' hgrow' _ hat; have HN := hid hown'; have HG := hid hgrow'; have hc5 := hgrow'.cell hbx3 (fun e => by have := hlt6.out _ e.symm; simp at this; omega); clear hown' hgrow' hat)
          go_roundw
          case rel =>
            refine ⟨imgWord m S u, f, pre ++ u, rfl, hSk, H11.out, by have := H10.out; omega, by rw [HRw.out, List.append_assoc], ?_, hBB.out.grown HG.out (by omega) (fun q hq => hlt6.out q hq), hc5⟩
            rw [List.length_append, List.map_append, HSW.out]
            exact HN.out
          case measure =>
            have := H10.out
            simp [setLeft, intOf]
            exact this
end Go.Proofs.YtlpfglkopnmlnaaDoor
namespace Go.Proofs.YtlpfglkopnmlnaaDoor
open Go.RowKit Go.Shelf
attribute [local go_sem] Oper.semAt_some
theorem own_slice3 {w : World} {base : Nat} {e : TypeId} {s : Nat} {v : Value} {n : Nat} {xs : List Value} (h : w.ownsRow base e s v n xs) : ∃ A k c, v = .slice A k c := by
  rcases h.2 with ⟨hu, _⟩ | ⟨g, cap, cur, hv, _⟩
  · exact ⟨none, 0, 0, hu⟩
  · exact ⟨_, _, cap, hv⟩
/-- No colouring, and an error. -/
def RoadErr (w : World) (c : Int) (e : Ending) (w' : World) : Prop := e = .returned (.tuple #[.agg #[.slice none 0 0], .slice none 0 0, .int .i64 c]) ∧ Below w.heap.size w w'
theorem four_alloc (w : World) (a b c d : Obj) : ((((w.alloc a).alloc b).alloc c).alloc d).heap[w.heap.size]? = some a ∧ ((((w.alloc a).alloc b).alloc c).alloc d).heap[w.heap.size + 1]? = some b ∧ ((((w.alloc a).alloc b).alloc c).alloc d).heap[w.heap.size + 2]? = some c ∧ ((((w.alloc a).alloc b).alloc c).alloc d).heap[w.heap.size + 3]? = some d ∧ ((((w.alloc a).alloc b).alloc c).alloc d).heap.size = w.heap.size + 4 := by
  have e1 : (w.alloc a).heap.size = w.heap.size + 1 := by simp
  have e2 : ((w.alloc a).alloc b).heap.size = w.heap.size + 2 := by simp
  have e3 : (((w.alloc a).alloc b).alloc c).heap.size = w.heap.size + 3 := by simp
  refine ⟨?_, ?_, ?_, ?_, by simp⟩
  · rw [Below.heap_alloc _ _ _ (by omega), Below.heap_alloc _ _ _ (by omega), Below.heap_alloc _ _ _ (by omega)]; exact heap_alloc_new _ _
  · rw [Below.heap_alloc _ _ _ (by omega), Below.heap_alloc _ _ _ (by omega), ← e1]; exact heap_alloc_new _ _
  · rw [Below.heap_alloc _ _ _ (by omega), ← e2]; exact heap_alloc_new _ _
  · rw [← e3]; exact heap_alloc_new _ _
set_option maxRecDepth 100000 in
set_option maxHeartbeats 1000000 in
theorem Road_err (v : Value) (m : List (List Int)) (p e c : Int) (w : World) (h : Rows w v m) (hp : (connM m = true ∧ validM m = true ∧ p = perM m ∧ e = 0) ∨ (BadM m e ∧ p = 0)) (hc : (e ≠ 0 ∧ c = e) ∨ (e = 0 ∧ 1 < p ∧ c = 4)) :
    Calls Tryd.prog 20 #[.agg #[v]] w (RoadErr w c) := by
  obtain ⟨A, cap, rfl, hml, -⟩ := id h
  obtain ⟨f0, f1, f2, f3, fs⟩ := four_alloc w (.cells #[.slice A m.length cap] 24) (.cells #[.slice none 0 0] 24) (.cells #[.slice none 0 0] 41) (.cells #[.int .i64 0] 25)
  have hX := bal (bal (bal (bal (Below.refl _ w) (.cells #[.slice A m.length cap] 24)) (.cells #[.slice none 0 0] 24)) (.cells #[.slice none 0 0] 41)) (.cells #[.int .i64 0] 25)
  have Hx := hid hX
  go_enter Tryd.func20, Tryd.ntmps20
  go_upto_region 1 with fail
  generalize hWX : (((w.alloc (.cells #[.slice A m.length cap] 24)).alloc (.cells #[.slice none 0 0] 24)).alloc (.cells #[.slice none 0 0] 41)).alloc (.cells #[.int .i64 0] 25) = X at *
  clear hX hWX
  have hX := Hx.out
  have c0 := cell_of_one f0
  have hr := h.below hX
  have hcl := Period_any _ m p e X hr hp
  clear f0
  go_wp2_with fail
  refine hcl.mono ?_
  rintro x w1 ⟨rfl, h1⟩
  have g1 := (h1.block _ (by omega)).trans f1
  have g2 := (h1.block _ (by omega)).trans f2
  have g3 := (h1.block _ (by omega)).trans f3
  have d1 := cell_of_one g1
  have d2 := free_of_one g1
  have d3 := cell_of_one g2
  have d4 := free_of_one g2
  have d5 := cell_of_one g3
  have d6 := free_of_one g3
  have HB := btr hX h1
  have fin : ∀ u : Int, Hid (∀ W9, W9 = (((w1.setCell ⟨w.heap.size + 1, 0, none⟩ (.slice none 0 0)).setCell ⟨w.heap.size + 1 + 1, 0, none⟩ (.slice none 0 0)).setCell ⟨w.heap.size + 1 + 1 + 1, 0, none⟩ (.int .i64 u)) →
      W9.cell? ⟨w.heap.size + 1, 0, none⟩ = some (.slice none 0 0) ∧ W9.cell? ⟨w.heap.size + 1 + 1, 0, none⟩ = some (.slice none 0 0) ∧ W9.cell? ⟨w.heap.size + 1 + 1 + 1, 0, none⟩ = some (.int .i64 u) ∧ Below w.heap.size w W9) := fun u => hid (by
    rintro W9 rfl
    have q1 : Boxed w1 (w.heap.size + 1) 24 (.slice none 0 0) := g1
    have q2 : Boxed w1 (w.heap.size + 1 + 1) 41 (.slice none 0 0) := g2
    have q3 : Boxed w1 (w.heap.size + 1 + 1 + 1) 25 (.int .i64 0) := g3
    refine ⟨(((q1.set _).other (by omega) _).other (by omega) _).cell, (((q2.other (by omega) _).set _).other (by omega) _).cell, (((q3.other (by omega) _).other (by omega) _).set _).cell, ?_⟩
    exact ((HB.setCell (p := ⟨w.heap.size + 1, 0, none⟩) (by show w.heap.size ≤ w.heap.size + 1; omega) _).setCell (p := ⟨w.heap.size + 1 + 1, 0, none⟩) (by show w.heap.size ≤ w.heap.size + 1 + 1; omega) _).setCell (p := ⟨w.heap.size + 1 + 1 + 1, 0, none⟩) (by show w.heap.size ≤ w.heap.size + 1 + 1 + 1; omega) _)
  clear g1 g2 g3
  rcases hc with ⟨he, rfl⟩ | ⟨rfl, hp1, rfl⟩
  · have hne : (c != 0) = true := by simp [he]
    have Fin := fin c
    clear fin
    go_wp2
    obtain ⟨k1, k2, k3, k4⟩ := Fin.out _ rfl
    generalize ((w1.setCell ⟨w.heap.size + 1, 0, none⟩ (.slice none 0 0)).setCell ⟨w.heap.size + 1 + 1, 0, none⟩ (.slice none 0 0)).setCell ⟨w.heap.size + 1 + 1 + 1, 0, none⟩ (.int .i64 c) = W9 at *
    refine bodyPost_ret (v := .tuple #[.agg #[.slice none 0 0], .slice none 0 0, .int .i64 c]) ?_ rfl ⟨rfl, k4⟩
    simp only [results, Tryd.results20]
    go_simp
  · have hd : decide (1 < p) = true := decide_eq_true hp1
    have Fin := fin 4
    clear fin
    go_wp2
    obtain ⟨k1, k2, k3, k4⟩ := Fin.out _ rfl
    generalize ((w1.setCell ⟨w.heap.size + 1, 0, none⟩ (.slice none 0 0)).setCell ⟨w.heap.size + 1 + 1, 0, none⟩ (.slice none 0 0)).setCell ⟨w.heap.size + 1 + 1 + 1, 0, none⟩ (.int .i64 4) = W9 at *
    refine bodyPost_ret (v := .tuple #[.agg #[.slice none 0 0], .slice none 0 0, .int .i64 4]) ?_ rfl ⟨rfl, k4⟩
    simp only [results, Tryd.results20]
    go_simp
end Go.Proofs.YtlpfglkopnmlnaaDoor
namespace Go.Proofs.YtlpfglkopnmlnaaDoor
theorem names_perm {l : List Int} {n : Nat} (h : namesM l n = true) : l.Perm ((List.range n).map fun i : Nat => (i : Int)) := by
  have hnd : ((List.range n).map fun i : Nat => (i : Int)).Nodup := by
    rw [List.nodup_iff_pairwise_ne, List.pairwise_map]
    exact List.pairwise_lt_range.imp (fun hab e => by omega)
  refine (List.perm_ext_iff_of_nodup (names_nodup h) hnd).2 fun x => ?_
  constructor
  · intro hx
    have hb := names_bound h x hx
    exact List.mem_map.2 ⟨x.toNat, List.mem_range.2 (by omega), by omega⟩
  · intro hx
    obtain ⟨i, hi, rfl⟩ := List.mem_map.1 hx
    rw [namesM, Bool.and_eq_true, List.all_eq_true] at h
    exact hasB_mem.1 (h.2 i hi)
theorem permsM_at {m p : List (List Int)} (hp : permsM m p = true) {s : Nat} (hs : s < m.length) : namesM (p.getD s []) (letters m) = true := by
  rw [permsM, Bool.and_eq_true, decide_eq_true_eq, List.all_eq_true] at hp
  exact hp.2 _ (by simp [List.getD_eq_getElem?_getD, List.getElem?_eq_getElem (show s < p.length by omega)])
theorem colRow_perm {m p : List (List Int)} (hv : validM m = true) (hp : permsM m p = true) {s : Nat} (hs : s < m.length) : (colRow m p s).Perm (m.getD s []) := by
  have h1 := (names_perm (permsM_at hp hs)).map fun x : Int => (m.getD s []).getD x.toNat 0
  have hl := ((valid_parts hv).2.2.2.2 s hs).1
  have h2 : ((List.range (letters m)).map fun i : Nat => (i : Int)).map (fun x : Int => (m.getD s []).getD x.toNat 0) = m.getD s [] := by
    apply List.ext_getElem
    · simp only [List.length_map, List.length_range]; exact hl.symm
    · intro j h1 h2
      simp only [List.getElem_map, List.getElem_range, Int.toNat_natCast]
      rw [getD_elem (m.getD s []) j h2]
  rw [h2] at h1
  exact h1
theorem colM_letters {m p : List (List Int)} (hv : validM m = true) (hp : permsM m p = true) : letters (colM m p) = letters m := by
  have hn := (valid_parts hv).1
  show ((colM m p).getD 0 []).length = letters m
  rw [colM_get m p 0 (by omega), (colRow_perm hv hp (by omega)).length_eq, ((valid_parts hv).2.2.2.2 0 (by omega)).1]
theorem colM_valid {m p : List (List Int)} (hv : validM m = true) (hp : permsM m p = true) : validM (colM m p) = true := by
  obtain ⟨p1, p2, p3, p4, p5⟩ := valid_parts hv
  rw [validM, Bool.and_eq_true, Bool.and_eq_true, colM_letters hv hp, colM_length]
  refine ⟨inB_true (by omega), inB_true (by omega), ?_⟩
  rw [List.all_eq_true]
  intro r hr
  obtain ⟨s, hs, rfl⟩ := List.mem_map.1 hr
  have hs' := List.mem_range.1 hs
  have hpm := colRow_perm hv hp hs'
  rw [rowOk, Bool.and_eq_true, decide_eq_true_eq, colM_letters hv hp, colM_length]
  refine ⟨by rw [hpm.length_eq]; exact (p5 s hs').1, ?_⟩
  rw [List.all_eq_true]
  intro x hx
  have := row_range hv hs' x (hpm.mem_iff.1 hx)
  exact inB_true (by omega)
theorem colM_same {m p : List (List Int)} (hv : validM m = true) (hp : permsM m p = true) : sameM m (colM m p) = true := by
  rw [sameM, decide_eq_true (colM_length m p).symm, decide_eq_true (colM_letters hv hp).symm, Bool.true_and, Bool.true_and, List.all_eq_true]
  intro s hs
  rw [List.all_eq_true]
  intro t _
  rw [colM_get m p s (List.mem_range.1 hs), beq_iff_eq]
  exact timesL_perm (colRow_perm hv hp (List.mem_range.1 hs)).symm _
theorem sameM_refl (m : List (List Int)) : sameM m m = true := by simp [sameM]
theorem sameM_symm {m k : List (List Int)} (h : sameM m k = true) : sameM k m = true := by
  rw [sameM, Bool.and_eq_true, Bool.and_eq_true, decide_eq_true_eq, decide_eq_true_eq, List.all_eq_true] at h
  rw [sameM, Bool.and_eq_true, Bool.and_eq_true, decide_eq_true_eq, decide_eq_true_eq, List.all_eq_true]
  refine ⟨⟨h.1.1.symm, h.1.2.symm⟩, fun s hs => ?_⟩
  rw [← h.1.1] at hs ⊢
  have := h.2 s hs
  rw [List.all_eq_true] at this ⊢
  intro t ht
  have := this t ht
  rw [beq_iff_eq] at this ⊢
  exact this.symm
end Go.Proofs.YtlpfglkopnmlnaaDoor
namespace Go.Proofs.YtlpfglkopnmlnaaDoor
/-- The rows of one automaton are orders of those of another one. -/
def PermR (m k : List (List Int)) : Prop := k.length = m.length ∧ ∀ s, s < m.length → (k.getD s []).Perm (m.getD s [])
theorem PermR.lets {m k : List (List Int)} (h : PermR m k) (hv : validM m = true) : letters k = letters m := by
  obtain ⟨p1, p2, p3, p4, p5⟩ := valid_parts hv
  show (k.getD 0 []).length = letters m
  rw [(h.2 0 (by omega)).length_eq, (p5 0 (by omega)).1]
theorem PermR.valid {m k : List (List Int)} (h : PermR m k) (hv : validM m = true) : validM k = true := by
  obtain ⟨p1, p2, p3, p4, p5⟩ := valid_parts hv
  have hl := h.1
  rw [validM, Bool.and_eq_true, Bool.and_eq_true, h.lets hv, hl]
  refine ⟨inB_true (by omega), inB_true (by omega), ?_⟩
  rw [List.all_eq_true]
  intro r hr
  obtain ⟨s, hs, rfl⟩ := List.mem_iff_getElem.1 hr
  have hs' : s < m.length := by omega
  have hpm := h.2 s hs'
  rw [show k.getD s [] = k[s] by simp [List.getD_eq_getElem?_getD, List.getElem?_eq_getElem hs]] at hpm
  rw [rowOk, Bool.and_eq_true, decide_eq_true_eq, h.lets hv, hl]
  refine ⟨by rw [hpm.length_eq]; exact (p5 s hs').1, ?_⟩
  rw [List.all_eq_true]
  intro x hx
  have := row_range hv hs' x (hpm.mem_iff.1 hx)
  exact inB_true (by omega)
theorem PermR.same {m k : List (List Int)} (h : PermR m k) (hv : validM m = true) : sameM m k = true := by
  rw [sameM, decide_eq_true h.1.symm, decide_eq_true (h.lets hv).symm, Bool.true_and, Bool.true_and, List.all_eq_true]
  intro s hs
  rw [List.all_eq_true]
  intro t _
  rw [beq_iff_eq]
  exact timesL_perm (h.2 s (List.mem_range.1 hs)).symm _
theorem numM_perm {m : List (List Int)} {D : Nat → Nat} (hD : ∀ s, s < m.length → D s < (orbP (m.getD s [])).length) : PermR m (numM m D) :=
  ⟨numM_length m D, fun s hs => by rw [numM_get m D s hs]; exact orbP_perm _ (by have := hD s hs; rwa [orbP_len] at this)⟩
theorem allNum_perm {m M : List (List Int)} (hv : validM m = true) (h : M ∈ allNum m) : PermR m M := by
  rcases List.mem_append.1 h with h | h
  · obtain ⟨i, _, rfl⟩ := List.mem_map.1 h
    exact numM_perm fun s hs => scatN_lt (orbP_big hv hs).2
  · obtain ⟨i, _, rfl⟩ := List.mem_map.1 h
    exact numM_perm fun s hs => Nat.mod_lt _ (orbP_big hv hs).2
end Go.Proofs.YtlpfglkopnmlnaaDoor
namespace Go.Proofs.YtlpfglkopnmlnaaDoor
open Go.RowKit Go.Shelf
attribute [local go_sem] Oper.semAt_some
/-- A colouring and its reset word, or an error where none that is tried has one. -/
def RoadIs (m : List (List Int)) (w : World) (e : Ending) (w' : World) : Prop :=
  (∃ (r u : Value) (M : List (List Int)), e = .returned (.tuple #[.agg #[r], u, .int .i64 0]) ∧ M ∈ allNum m ∧ allMerge M ∧ Rows w' r M ∧ w'.ownsRow w.heap.size 3 1 u (resetW M).length ((resetW M).map fun x => .int .i64 x) ∧ Below w.heap.size w w') ∨
  ((∀ M ∈ allNum m, ¬ allMerge M) ∧ RoadErr w 3 e w')
/-- What stands when the ranging has been left. -/
def RoadX (w : World) (pre : List (Value × List (List Int))) (W : World) : Prop :=
  ∃ (r u : Value) (M : List (List Int)) (nb : Nat), M ∈ pre.map (·.2) ∧ allMerge M ∧ Boxed W (w.heap.size + 1) 24 r ∧ Boxed W (w.heap.size + 1 + 1) 41 u ∧ Boxed W (w.heap.size + 1 + 1 + 1) 25 (.int .i64 0) ∧
    MRows W nb r M ∧ W.ownsRow w.heap.size 3 1 u (resetW M).length ((resetW M).map fun x => .int .i64 x) ∧ Below w.heap.size w W
theorem RoadX.step {w : World} {pre : List (Value × List (List Int))} {W W' : World} {B : Nat} (hB : w.heap.size ≤ B) (h : RoadX w pre W) (h1 : W'.os = W.os) (h2 : W'.tape = W.tape) (h3 : W'.output = W.output) (h4 : W.heap.size ≤ W'.heap.size)
    (hk : ∀ k o, W.heap[k]? = some o → (k < B ∨ o.isCells = true) → W'.heap[k]? = some o) : RoadX w pre W' := by
  obtain ⟨r, u, M, nb, a1, a2, a3, a4, a5, a6, a7, a8⟩ := h
  refine ⟨r, u, M, nb, a1, a2, hk _ _ a3 (.inr rfl), hk _ _ a4 (.inr rfl), hk _ _ a5 (.inr rfl), a6.marks (fun k o h c => hk k o h (.inr c)), ownsRow_same a7 (fun g hg => ?_), ⟨h1.trans a8.os, h2.trans a8.tape, h3.trans a8.output, Nat.le_trans a8.size h4, fun k hks => ?_⟩⟩
  · rcases a7.2 with ⟨rfl, _⟩ | ⟨g', cap, cur, rfl, hb, hh, _⟩
    · cases hg
    · cases hg
      exact (hk _ _ hh (.inr rfl)).trans hh.symm
  · have e := a8.block k hks
    have hs : k < W.heap.size := Nat.lt_of_lt_of_le hks a8.size
    rw [Array.getElem?_eq_getElem hs] at e
    rw [hk k _ (Array.getElem?_eq_getElem hs) (.inl (by omega)), e]
theorem stableE_road (w : World) (B : Nat) (c : Code) (hB : w.heap.size ≤ B) : StableE B (fun _ (pre : List (Value × List (List Int))) W => c = .ret ∧ RoadX w pre W) := by
  rintro X s W W' ⟨h0, h⟩ h1 h2 h3 h4 hk
  exact ⟨h0, h.step hB h1 h2 h3 h4 hk⟩
set_option maxRecDepth 100000 in
set_option maxHeartbeats 4000000 in
theorem Road_ok (v : Value) (m : List (List Int)) (w : World) (hT : Tab w) (h : Rows w v m) (hv : validM m = true) (hc : connM m = true) (hp1 : perM m = 1) :
    Calls Tryd.prog 20 #[.agg #[v]] w (RoadIs m w) := by
  obtain ⟨A, cap, rfl, hml, -⟩ := id h
  obtain ⟨f0, f1, f2, f3, fs⟩ := four_alloc w (.cells #[.slice A m.length cap] 24) (.cells #[.slice none 0 0] 24) (.cells #[.slice none 0 0] 41) (.cells #[.int .i64 0] 25)
  have hX := bal (bal (bal (bal (Below.refl _ w) (.cells #[.slice A m.length cap] 24)) (.cells #[.slice none 0 0] 24)) (.cells #[.slice none 0 0] 41)) (.cells #[.int .i64 0] 25)
  have Hx := hid hX
  have hfo := follows
  refine (callsIn_wide (n := 0)).1 ?_
  refine callsIn_of_wp_marks Tryd.func20 rfl trivial ?_ rfl
  simp only [Tryd.ntmps20, List.size_toArray, List.length_cons, List.length_nil, Nat.reduceAdd, Nat.reduceSub, Array.replicate_succ, Array.replicate_zero, List.push_toArray, List.append_toArray, List.nil_append, List.cons_append]
  refine wpIn_wide.2 ?_
  go_upto_region 1 with fail
  generalize hWX : (((w.alloc (.cells #[.slice A m.length cap] 24)).alloc (.cells #[.slice none 0 0] 24)).alloc (.cells #[.slice none 0 0] 41)).alloc (.cells #[.int .i64 0] 25) = X at *
  clear hX hWX
  have hX := Hx.out
  have c0 := cell_of_one f0
  have hr := h.below hX
  have hcl := Period_any _ m 1 0 X hr (.inl ⟨hc, hv, by rw [hp1]; rfl, rfl⟩)
  go_wp2_with fail
  refine hcl.mono ?_
  rintro x w1 ⟨rfl, h1⟩
  have c1 := (h1.cell (p := ⟨w.heap.size, 0, none⟩) (by show w.heap.size < X.heap.size; omega)).trans c0
  have s1 := h1.size
  go_wp2_with fail
  refine (numberings_any (.slice A m.length cap) m w1 (hr.below h1) hv).mono ?_
  rintro e T ⟨rb, g, rfl, n1, n2, n3, n4, n5, hb⟩
  have hbT := btr h1 hb
  have g1 : Boxed T (w.heap.size + 1) 24 (.slice none 0 0) := (hbT.block _ (by omega)).trans f1
  have g2 : Boxed T (w.heap.size + 1 + 1) 41 (.slice none 0 0) := (hbT.block _ (by omega)).trans f2
  have g3 : Boxed T (w.heap.size + 1 + 1 + 1) 25 (.int .i64 0) := (hbT.block _ (by omega)).trans f3
  have hwT := btr hX hbT
  have hTT := hT.on hwT
  have hsT := hb.size
  have lrb := n1.lt
  have lab := n2.lt
  have lg := n3.lt
  have hX0 : ∀ k, (w.heap.size + 4 ≤ k ∧ k < T.heap.size) → k < T.heap.size := fun k hk => hk.2
  have hCap : ∀ W', Keep (w.heap.size + 1) (fun k => w.heap.size + 4 ≤ k ∧ k < T.heap.size) T W' → Cap (.slice A m.length cap) m (w1.heap.size + 1) g rb w1.heap.size W' := fun W' hk =>
    ⟨h.below (hwT.trans ((hk.below (by omega)).mono (by omega))), n3.kept (fun k h1 h2 => hk.block k h2 (.inr ⟨by omega, h2⟩)), keep_cell hk ⟨by omega, lrb⟩ n1.cell, keep_cell hk ⟨by omega, lab⟩ n2.cell⟩
  have hseq := numbers_seq (.slice A m.length cap) m (w1.heap.size + 1) g rb w1.heap.size (w.heap.size + 1) T (fun k => w.heap.size + 4 ≤ k ∧ k < T.heap.size) hv hX0 (by omega) hCap
  have Hperm := hid (fun (M : List (List Int)) (hM : M ∈ allNum m) => (allNum_perm hv hM))
  have hrT := h.below hwT
  clear hCap c0 c1 f0 f1 f2 f3 hb hcl hr n1 n2 n3 h1 hX hbT
  generalize hAN : allNum m = AN at *
  have HAN := hid hAN
  clear hAN
  go_wp2_with fail
  refine (wpIn_wide (n := 0)).1 ?_
  refine range_lawE (gf := 84) (fb := #[]) (lb := #[.pointer (some ⟨rb, 0, none⟩), .pointer (some ⟨w1.heap.size, 0, none⟩)]) rfl (enters_of Tryd.func84 (by kernel_rfl) rfl)
    hseq hX0 (fun _ _ _ _ h k => h.keep k) (by omega) (Below.refl _ _) (fun _ => rfl)
    (fun X pre W => (∀ M ∈ pre.map (·.2), ¬ allMerge M) ∧ (Mine X W (w.heap.size + 1) 24 (.slice none 0 0) ∧ (Mine X W (w.heap.size + 1 + 1) 41 (.slice none 0 0) ∧ (Mine X W (w.heap.size + 1 + 1 + 1) 25 (.int .i64 0) ∧ Base (w.heap.size + 1) T X W))))
    (fun c X pre W => c = .ret ∧ RoadX w pre W)
    (Stable.and (stable_pure _ (fun pre : List (Value × List (List Int)) => ∀ M ∈ pre.map (·.2), ¬ allMerge M)) (Stable.and (stable_box _ _ _ (fun _ => _)) (Stable.and (stable_box _ _ _ (fun _ => _)) (Stable.and (stable_box _ _ _ (fun _ => _)) (stable_base _ _ _ (by omega) (by omega))))))
    (fun c => stableE_road w _ c (by omega))
    ⟨fun M hM => by simp at hM, ⟨g1, fun h => by omega⟩, ⟨g2, fun h => by omega⟩, ⟨g3, fun h => by omega⟩, ⟨fun k hk => by omega, Below.refl _ _⟩⟩
    (fun X x a' W => ∃ bp, (∃ rA rn rc, x.1 = .slice rA rn rc) ∧ Boxed W bp 24 x.1 ∧ T.heap.size ≤ bp ∧ ¬ X bp ∧ a' = { tmps := #[.agg #[.slice A m.length cap], .pointer (some ⟨w.heap.size, 0, none⟩), .pointer (some ⟨w.heap.size + 1, 0, none⟩), .pointer (some ⟨w.heap.size + 1 + 1, 0, none⟩), .pointer (some ⟨w.heap.size + 1 + 1 + 1, 0, none⟩), .int .i64 1, .int .i64 0, .pointer (some ⟨bp, 0, none⟩), undef, undef, .tuple #[.int .i64 1, .int .i64 0], .agg #[.slice A m.length cap], .tuple #[.int .i64 1, .int .i64 0], .int .i64 1, .int .i64 0, .int .i64 0, .bool false, undef, undef, .int .i64 1, .bool false, undef, .agg #[.slice A m.length cap], .func (.func 84) #[] #[.pointer (some ⟨rb, 0, none⟩), .pointer (some ⟨w1.heap.size, 0, none⟩)], .agg #[x.1], undef, undef, undef, undef, undef, undef, undef, undef, undef, undef], defers := [] })
    ?ax ?assign ?body ?done ?stop
  case ax =>
    rintro X x a' W l o o' ⟨bp, h1, h2, h3, h4, h5⟩ _ hl hc
    refine ⟨bp, h1, (World.putObj_heap_other (fun e => ?_)).trans h2, h3, h4, h5⟩
    subst e
    unfold Boxed at h2
    rw [hl] at h2
    cases h2
    cases hc
  case assign =>
    intro l X pre x W K hXs hi hG hK
    obtain ⟨x1, x2⟩ := x
    unfold encN
    obtain ⟨nb, hnb, hM⟩ := hG.mrows
    obtain ⟨rA, rn, rc, hx⟩ := hM.slice'
    simp only at hx
    subst hx
    obtain ⟨i1, i2, i3, i4, i5⟩ := hi
    have hsW := i5.2.size
    gi_wp2
    have hb := bal (Below.refl _ W) (.cells #[.slice rA rn rc] 24)
    refine hK _ _ (kf_below hb) (Keep.of_below hb) ⟨i1, i2.below hb, i3.below hb, i4.below hb, i5.step (hb.mono (by omega))⟩ ⟨W.heap.size, ⟨rA, rn, rc, rfl⟩, World.alloc_heap_new _ _, by omega, fun h => by have := hXs _ h; omega, rfl⟩
  case body =>
    rintro l X pre ⟨x1, M⟩ a' W hl hrec hXl hXs ⟨i1, i2, i3, i4, i5⟩ hG ⟨bp, ⟨rA, rn, rc, hx⟩, hbp, hbp1, hbp2, rfl⟩ hsp
    simp only at hx
    subst hx
    obtain ⟨nb, hnb, hM⟩ := hG.mrows
    have hMn : M ∈ AN := hsp.subset (by simp)
    have hPM := Hperm.out M hMn
    have hvM := hPM.valid hv
    have hRM : Rows W (.slice rA rn rc) M := hM.rows (by rw [hPM.1]; exact hml)
    have hwW : Below w.heap.size w W := hwT.trans (i5.2.mono (by omega))
    have hTW := hT.on hwW
    have cb := hbp.cell
    have hsW := i5.2.size
    by_cases hm : allMerge M
    · have hRe := Reset_ok (.slice rA rn rc) M W hTW hRM hvM hm
      gi_wp2_with fail
      refine ⟨trivial, rfl, (inr l _ hRe).mono ?_⟩
      rintro e W2 ⟨u, rfl, hu, hb2⟩
      have j2 := i2.below hb2; have j3 := i3.below hb2; have j4 := i4.below hb2
      have e2 := j2.cell; have e2f := j2.frozen; have e3 := j3.cell; have e3f := j3.frozen; have e4 := j4.cell; have e4f := j4.frozen
      have cb2 := (hb2.cell (p := ⟨bp, 0, none⟩) (World.block_lt_of_cell? _ _ cb)).trans cb
      have hub := row_blk2 hu
      obtain ⟨uA, un, uc, rfl⟩ := own_slice3 hu
      have hsW2 := hb2.size
      have Hu := hid (row_mono hu (by omega : w.heap.size ≤ W.heap.size))
      have HM2 := hid (hM.below hb2)
      have l2 := j2.1.lt
      clear hu hM
      have Kfin : Hid (∀ W9, W9 = (((W2.setCell ⟨w.heap.size + 1, 0, none⟩ (.slice rA rn rc)).setCell ⟨w.heap.size + 1 + 1, 0, none⟩ (.slice uA un uc)).setCell ⟨w.heap.size + 1 + 1 + 1, 0, none⟩ (.int .i64 0)) →
          KeepsFrom T.heap.size W W9 ∧ Keep (w.heap.size + 1) X W W9 ∧ (Code.ret = Code.ret ∧ RoadX w (pre ++ [(.slice rA rn rc, M)]) W9)) := hid (by
        rintro W9 rfl
        have hsame : ∀ k, w.heap.size + 4 ≤ k → (((W2.setCell ⟨w.heap.size + 1, 0, none⟩ (.slice rA rn rc)).setCell ⟨w.heap.size + 1 + 1, 0, none⟩ (.slice uA un uc)).setCell ⟨w.heap.size + 1 + 1 + 1, 0, none⟩ (.int .i64 0)).heap[k]? = W2.heap[k]? := fun k hk => by
          rw [Below.heap_setCell _ _ _ _ (by simp; omega), Below.heap_setCell _ _ _ _ (by simp; omega), Below.heap_setCell _ _ _ _ (by simp; omega)]
        refine ⟨(((kf_below hb2).trans (kf_set _ _ _ _)).trans (kf_set _ _ _ _)).trans (kf_set _ _ _ _), (((Keep.of_below hb2).trans (keep_set _ _ _ (by omega) j2.2)).trans (keep_set _ _ _ (by omega) j3.2)).trans (keep_set _ _ _ (by omega) j4.2), rfl, _, _, M, nb, by simp, hm, (((j2.set _).other (by omega) _).other (by omega) _).1, (((j3.other (by omega) _).set _).other (by omega) _).1, (((j4.other (by omega) _).other (by omega) _).set _).1, HM2.out.kept (fun k hk _ => hsame k (by omega)), ownsRow_same Hu.out (fun g hg => hsame g (by have := hub g hg; omega)), ?_⟩
        exact (((hwW.trans (hb2.mono (by omega))).setCell (p := ⟨w.heap.size + 1, 0, none⟩) (by show w.heap.size ≤ w.heap.size + 1; omega) _).setCell (p := ⟨w.heap.size + 1 + 1, 0, none⟩) (by show w.heap.size ≤ w.heap.size + 1 + 1; omega) _).setCell (p := ⟨w.heap.size + 1 + 1 + 1, 0, none⟩) (by show w.heap.size ≤ w.heap.size + 1 + 1 + 1; omega) _)
      gi_wp2
      obtain ⟨y1, y2, y3⟩ := Kfin.out _ rfl
      exact ⟨y1, y2, rfl, y3.2⟩
    · have hRe := Reset_none (.slice rA rn rc) M W hRM hvM hm
      gi_wp2_with fail
      refine ⟨trivial, rfl, (inr l _ hRe).mono ?_⟩
      rintro e W2 ⟨rfl, hb2⟩
      gi_wp2
      exact ⟨kf_below hb2, Keep.of_below hb2, fun M' hM' => by
        rw [List.map_append, List.mem_append] at hM'
        rcases hM' with h1 | h1
        · exact i1 M' h1
        · obtain rfl : M' = M := by simpa using h1
          exact hm, i2.below hb2, i3.below hb2, i4.below hb2, i5.step (hb2.mono (by omega))⟩
  case done =>
    rintro D X xs W hD hS ⟨i1, i2, i3, i4, i5⟩ hK'
    have e2 := i2.cell; have e2f := i2.frozen; have e3 := i3.cell; have e3f := i3.frozen; have e4 := i4.cell; have e4f := i4.frozen
    have hwW : Below w.heap.size w W := hwT.trans (i5.2.mono (by omega))
    have Kfin : Hid (∀ W9, W9 = (((W.setCell ⟨w.heap.size + 1, 0, none⟩ (.slice none 0 0)).setCell ⟨w.heap.size + 1 + 1, 0, none⟩ (.slice none 0 0)).setCell ⟨w.heap.size + 1 + 1 + 1, 0, none⟩ (.int .i64 3)) →
        W9.heap[D]? = some (.deferred (some [])) ∧ Boxed W9 (w.heap.size + 1) 24 (.slice none 0 0) ∧ Boxed W9 (w.heap.size + 1 + 1) 41 (.slice none 0 0) ∧ Boxed W9 (w.heap.size + 1 + 1 + 1) 25 (.int .i64 3) ∧ Below w.heap.size w W9) := hid (by
      rintro W9 rfl
      refine ⟨?_, (((i2.set _).other (by omega) _).other (by omega) _).1, (((i3.other (by omega) _).set _).other (by omega) _).1, (((i4.other (by omega) _).other (by omega) _).set _).1, ?_⟩
      · rw [Below.heap_setCell _ _ _ _ (by simp; omega), Below.heap_setCell _ _ _ _ (by simp; omega), Below.heap_setCell _ _ _ _ (by simp; omega)]; exact hK'
      · exact ((hwW.setCell (p := ⟨w.heap.size + 1, 0, none⟩) (by show w.heap.size ≤ w.heap.size + 1; omega) _).setCell (p := ⟨w.heap.size + 1 + 1, 0, none⟩) (by show w.heap.size ≤ w.heap.size + 1 + 1; omega) _).setCell (p := ⟨w.heap.size + 1 + 1 + 1, 0, none⟩) (by show w.heap.size ≤ w.heap.size + 1 + 1 + 1; omega) _)
    gi_wp2
    go_wp2
    obtain ⟨k1, k2, k3, k4, k5⟩ := Kfin.out _ rfl
    generalize ((W.setCell ⟨w.heap.size + 1, 0, none⟩ (.slice none 0 0)).setCell ⟨w.heap.size + 1 + 1, 0, none⟩ (.slice none 0 0)).setCell ⟨w.heap.size + 1 + 1 + 1, 0, none⟩ (.int .i64 3) = W9 at *
    refine ⟨by simp, .inl ⟨_, _, rfl, run_takeDeferred k1, ?_⟩⟩
    have m2 := (put_boxed k2 k1).cell
    have m3 := (put_boxed k3 k1).cell
    have m4 := (put_boxed k4 k1).cell
    refine ⟨.tuple #[.agg #[.slice none 0 0], .slice none 0 0, .int .i64 3], ?_, .inr ⟨fun M hM => i1 M ?_, rfl, k5.trans (belowK_b (w := w) (Nat.le_refl _) _ D _ _ (by omega) k1 rfl rfl)⟩⟩
    · simp only [results, Tryd.results20]
      go_simp
    · rw [hS]
      rw [HAN.out] at hM
      exact hM
  case stop =>
    rintro D X c pre W hD hSp ⟨rfl, r, u, M, nb, a1, a2, a3, a4, a5, a6, a7, a8⟩ hK'
    gi_wp2
    refine ⟨by simp, .inl ⟨_, _, rfl, run_takeDeferred hK', ?_⟩⟩
    have m2 := (put_boxed a3 hK').cell
    have m3 := (put_boxed a4 hK').cell
    have m4 := (put_boxed a5 hK').cell
    obtain ⟨rA, rn, rc, rfl⟩ := a6.slice'
    obtain ⟨uA, un, uc, rfl⟩ := own_slice3 a7
    have hMn : M ∈ AN := hSp.subset a1
    have hPM := Hperm.out M hMn
    have h9 := (a6.marks (W' := W.putObj D (.deferred none)) (fun k o hk hc => (World.putObj_heap_other (fun e => by
      subst e
      rw [hK'] at hk
      cases hk
      cases hc)).trans hk)).rows (by rw [hPM.1]; exact hml)
    refine ⟨.tuple #[.agg #[.slice rA rn rc], .slice uA un uc, .int .i64 0], ?_, .inl ⟨_, _, M, rfl, by rw [HAN.out]; exact hMn, a2, h9, ownsRow_putObj a7 (.deferred none) hK' rfl, a8.trans (belowK_b (w := w) (Nat.le_refl _) _ D _ _ (by omega) hK' rfl rfl)⟩⟩
    · simp only [results, Tryd.results20]
      go_simp
end Go.Proofs.YtlpfglkopnmlnaaDoor
namespace Go.Proofs.YtlpfglkopnmlnaaDoor
open Go.RowKit Go.Shelf
/-- The pairs (p, d) with d below q that are never merged; those of all first states below p. -/
def apartRow (m : List (List Int)) (p q : Nat) : List (Nat × Nat) := ((List.range q).filter fun d => decide (p < d) && decide (mlen m p d < 0)).map fun d => (p, d)
def apartAll (m : List (List Int)) (p : Nat) : List (Nat × Nat) := (List.range p).flatMap fun a => apartRow m a m.length
/-- The pairs that no word merges. -/
def apartL (m : List (List Int)) : List (Nat × Nat) := apartAll m m.length
theorem apartL_mem {m : List (List Int)} {e : Nat × Nat} : e ∈ apartL m ↔ e.1 < e.2 ∧ e.2 < m.length ∧ mlen m e.1 e.2 < 0 := by
  unfold apartL apartAll apartRow
  simp only [List.mem_flatMap, List.mem_range, List.mem_map, List.mem_filter, Bool.and_eq_true, decide_eq_true_eq]
  constructor
  · rintro ⟨a, ha, d, ⟨hd, h1, h2⟩, rfl⟩
    exact ⟨h1, hd, h2⟩
  · rintro ⟨h1, h2, h3⟩
    exact ⟨e.1, by omega, e.2, ⟨h2, h1, h3⟩, rfl⟩
end Go.Proofs.YtlpfglkopnmlnaaDoor
namespace Go.Proofs.YtlpfglkopnmlnaaDoor
open Go.RowKit Go.Shelf
theorem apartL_nil {m : List (List Int)} (hv : validM m = true) : apartL m = [] ↔ allMerge m := by
  constructor
  · intro h p q hpq hq
    rcases mlen_spec hv (p := p) (q := q) (by omega) hq with ⟨h1, _⟩ | ⟨j, _, _, h3⟩
    · have : (p, q) ∈ apartL m := apartL_mem.2 ⟨hpq, hq, by simp only; omega⟩
      rw [h] at this
      cases this
    · exact ⟨j, h3.1⟩
  · intro h
    rw [List.eq_nil_iff_forall_not_mem]
    intro e he
    obtain ⟨h1, h2, h3⟩ := apartL_mem.1 he
    obtain ⟨k, hk⟩ := h e.1 e.2 h1 h2
    obtain ⟨j, _, hd⟩ := mdist_some hk
    rw [mlen_of hv (by omega) h2 hd] at h3
    omega
theorem ofList_all {n : Nat} (hn : n ≤ 64) : ofList (allM n) = 2 ^ n - 1 := by
  have hp : (2 : Nat) ^ n ≤ 2 ^ 64 := Nat.pow_le_pow_right (by decide) hn
  have h0 := Nat.two_pow_pos n
  have hm : ∀ x ∈ allM n, 0 ≤ x ∧ x < n := fun x hx => by
    unfold allM pick at hx
    simp at hx
    obtain ⟨a, ha, rfl⟩ := hx
    omega
  refine eq_of_elems _ _ (Nat.lt_of_lt_of_le (ofList_lt n hn _ hm) hp) (by omega) fun i _ => ?_
  rw [testBit_below, allM, pick_testBit]
  simp
theorem image_len {m : List (List Int)} (hm : m.length ≤ 64) (u : List Int) : (imageM m (allM m.length) u).length = (elems (imgWord m (2 ^ m.length - 1) u)).length := by
  rw [imageM, ofList_all hm, intsOf, List.length_map]
theorem resetW_word {m : List (List Int)} (hv : validM m = true) (hall : allMerge m) : isWordM m (resetW m) = true := by
  obtain ⟨p1, p2, -⟩ := valid_parts hv
  obtain ⟨c1, -, c3⟩ := resetW_ok hv hall
  have hcube : m.length * m.length * m.length ≤ 60 * 60 * 60 := Nat.mul_le_mul (Nat.mul_le_mul p2 p2) p2
  unfold isWordM
  rw [c1, Bool.and_true]
  exact decide_eq_true (by omega)
set_option maxHeartbeats 2000000 in
theorem rResets_yes (v u : Value) (m : List (List Int)) (l : List Int) (w : World) (h : Rows w v m) (hu : Ints w u l) (hv : validM m = true) (hw : isWordM m l = true) (h1 : (imageM m (allM m.length) l).length = 1) :
    Calls Tryd.prog 23 #[.agg #[v], u] w fun e w' => e = .returned (.bool true) ∧ Below w.heap.size w w' := by
  obtain ⟨p1, p2, -⟩ := valid_parts hv
  obtain ⟨A, cap, rfl, hml, -⟩ := id h
  obtain ⟨uA, uc, rfl, -, -⟩ := id hu
  have hX := bal (Below.refl _ w) (.cells #[.slice A m.length cap] 24)
  have hbx := (Boxed.new w 24 (.slice A m.length cap)).cell
  have Hx := hid hX
  have hset := allM_set m
  obtain ⟨x, hx⟩ : ∃ x, imageM m (allM m.length) l = [x] := by
    match hi : imageM m (allM m.length) l, h1 with
    | [x], _ => exact ⟨x, rfl⟩
  have Hx1 := hid hx
  have HAL := hid (show allM m.length = allM m.length from rfl)
  have Hset := hid hset
  clear hset hx h1
  go_enter Tryd.func23, Tryd.ntmps23
  go_wp2_with fail
  have hr := h.below hX
  have hu2 := hu.below hX
  generalize w.alloc (.cells #[.slice A m.length cap] 24) = X at *
  clear hX h hu
  go_region_held3 (fun w' => Below X.heap.size X w' ∧ w'.cell? ⟨w.heap.size, 0, none⟩ = some (.slice A m.length cap)) (exact held_one hbx (by first | exact below_dr X 1 | assumption)) (first
    | (go_at_call 25; go_must (refine (rWord_bool _ _ m l true _ (hr.below (by first | exact below_dr X 1 | exact Below.refl _ _)) hv (hu2.below (by first | exact below_dr X 1 | exact Below.refl _ _)) hw).mono ?_; rintro e y1 ⟨rfl, hy1⟩; have k1 : Below X.heap.size X y1 := btr (by first | exact below_dr X 1 | exact Below.refl _ _) hy1))
    | (go_at_call 28; go_must (refine (rAll_any m.length _ (by omega)).mono ?_; rintro e y2 ⟨rv, rfl, i2, hy2⟩; have k2 : Below X.heap.size X y2 := btr k1 hy2; obtain ⟨rA, rc, rfl, -, -⟩ := id i2))
    | (go_at_call 60; go_must (refine (rImage_any _ _ _ m _ l _ (hr.below k2) i2 (hu2.below k2) hv Hset.out hw).mono ?_; rintro e y3 ⟨rv3, rfl, i3, hy3⟩; rw [Hx1.out] at i3; have k3 : Below X.heap.size X y3 := btr k2 hy3; obtain ⟨rA3, rc3, rfl, -, -⟩ := id i3)))
  all_goals go_wp2
  all_goals go_ret
  all_goals exact ⟨rfl, btr Hx.out k3⟩
end Go.Proofs.YtlpfglkopnmlnaaDoor
namespace Go.Proofs.YtlpfglkopnmlnaaDoor
open Go.RowKit Go.Shelf
theorem lit2_rows (w : World) (a b c d : Int) : Rows (((w.alloc (.cells #[.int .i64 a, .int .i64 b] 3)).alloc (.cells #[.int .i64 c, .int .i64 d] 3)).alloc
    (.cells #[.slice (some ⟨w.heap.size, 0, none⟩) 2 2, .slice (some ⟨w.heap.size + 1, 0, none⟩) 2 2] 41)) (.slice (some ⟨w.heap.size + 1 + 1, 0, none⟩) 2 2) [[a, b], [c, d]] :=
  rows2 _ _ _ _ _ _ _ (by simp) ((Ints.two' w a b _ _ rfl).alloc _) (Ints.two' _ c d _ _ (by simp))
end Go.Proofs.YtlpfglkopnmlnaaDoor
namespace Go.Proofs.YtlpfglkopnmlnaaDoor
open Go.RowKit Go.Shelf
theorem Ints.nil (w : World) : Ints w (.slice none 0 0) [] := ⟨none, 0, rfl, by simp, fun i hi => by simp at hi⟩
end Go.Proofs.YtlpfglkopnmlnaaDoor
namespace Go.Proofs.YtlpfglkopnmlnaaDoor
open Go.RowKit Go.Shelf
theorem reset_one {m : List (List Int)} (hv : validM m = true) (hall : allMerge m) : (imageM m (allM m.length) (resetW m)).length = 1 := by
  rw [image_len (by have := (valid_parts hv).2.1; omega)]
  exact (resetW_ok hv hall).2.1
end Go.Proofs.YtlpfglkopnmlnaaDoor
namespace Go.Proofs.YtlpfglkopnmlnaaDoor
open Go.RowKit Go.Shelf
theorem three_alloc4 (w : World) (a b c : Obj) : (((w.alloc a).alloc b).alloc c).heap[w.heap.size]? = some a ∧ (((w.alloc a).alloc b).alloc c).heap[w.heap.size + 1]? = some b ∧ (((w.alloc a).alloc b).alloc c).heap[w.heap.size + 2]? = some c ∧ (((w.alloc a).alloc b).alloc c).heap.size = w.heap.size + 3 := by
  obtain ⟨h0, h1⟩ := two_alloc w a b
  have e2 : ((w.alloc a).alloc b).heap.size = w.heap.size + 2 := by simp
  refine ⟨?_, ?_, ?_, by simp⟩
  · rw [Below.heap_alloc _ _ _ (by omega)]; exact h0
  · rw [Below.heap_alloc _ _ _ (by omega)]; exact h1
  · rw [← e2]; exact heap_alloc_new _ _
theorem colM_take (m p : List (List Int)) (s : Nat) (h : s < m.length) : (colM m p).take (s + 1) = (colM m p).take s ++ [colRow m p s] := by
  rw [take_snocR (show s < (colM m p).length by rw [colM_length]; exact h), colM_get m p s h]
set_option maxRecDepth 100000 in
set_option maxHeartbeats 4000000 in
theorem rColored_any (v u : Value) (m p : List (List Int)) (w : World) (h : Rows w v m) (hu : Rows w u p) (hv : validM m = true) (hpm : permsM m p = true) :
    Calls Tryd.prog 14 #[.agg #[v], u] w fun e w' => ∃ r, e = .returned (.agg #[r]) ∧ MRows w' w.heap.size r (colM m p) ∧ Below w.heap.size w w' := by
  obtain ⟨A, cap, rfl, _, hcm⟩ := id h
  obtain ⟨Au, capu, rfl, hlu, hcu⟩ := id hu
  unfold big at hlu
  have hn1 := (valid_parts hv).1
  have hn := (valid_parts hv).2.1
  have hlm := (valid_parts hv).2.2.2.1
  have hlm1 := (valid_parts hv).2.2.1
  have Hcu := hid hcu
  have Hcm := hid hcm
  obtain ⟨j0, hj, hy0, hy1, hy2⟩ := info_parts infoInt
  have hpm' := hpm
  rw [permsM, Bool.and_eq_true, decide_eq_true_eq, List.all_eq_true] at hpm'
  obtain ⟨hlen, hall⟩ := hpm'
  have Hall := hid (fun s (hs : s < p.length) => hall (p.getD s []) (by simp [List.getD_eq_getElem?_getD, List.getElem?_eq_getElem hs]))
  have hp60 : p.length ≤ 60 := by omega
  have Hlen := hid hlen
  clear hcu hcm hpm hlen hall
  obtain ⟨f0, f1, f2, fs⟩ := three_alloc4 w (.cells #[.slice A m.length cap] 24) (.cells #[.slice none 0 0] 24) (.cells #[.slice none 0 0] 24)
  have hX := bal (bal (bal (Below.refl _ w) (.cells #[.slice A m.length cap] 24)) (.cells #[.slice none 0 0] 24)) (.cells #[.slice none 0 0] 24)
  have Hx := hid hX
  have H0 := hid (show (colM m p).take 0 = [] from rfl)
  go_enter Tryd.func14, Tryd.ntmps14
  go_upto_region 2 with fail
  generalize hWX : ((w.alloc (.cells #[.slice A m.length cap] 24)).alloc (.cells #[.slice none 0 0] 24)).alloc (.cells #[.slice none 0 0] 24) = X at *
  clear hX hWX
  have hX := Hx.out
  have c0 := cell_of_one f0
  have Fs := hid fs
  have hM0 : MRows X (w.heap.size + 3) (.slice none 0 0) [] := MRows.nil X _
  clear f0 fs
  go_wp2_with fail
  go_loopw [6] (fun i wr => ∃ (M : List (List Int)) (vv : Value), M.length ≤ p.length ∧ i = .int .i64 M.length ∧ M = (colM m p).take M.length ∧ MRows wr (w.heap.size + 3) vv M ∧ Boxed wr (w.heap.size + 2) 24 vv ∧ Below (w.heap.size + 2) X wr ∧ w.heap.size + 3 ≤ wr.heap.size) (fun i _ => p.length - (intOf i).toNat)
  case atStart => exact ⟨[], .slice none 0 0, Nat.zero_le _, rfl, H0.out.symm, hM0, f2, Below.refl _ _, by rw [Fs.out]; exact Nat.le_refl _⟩
  case round =>
    clear f2 hM0
    obtain ⟨M, vv, hk, rfl, hMe, hMR, hbx, hBX, hsz⟩ := hrel
    have Hbx := hid hbx
    have HMR := hid hMR
    have HMe := hid hMe
    clear hMe hMR hbx
    by_cases hlt : M.length < p.length
    · have hltm : M.length < m.length := by have := Hlen.out; omega
      have hkp : (M.length : Int) < p.length := by omega
      have hkm : (M.length : Int) < m.length := by omega
      obtain ⟨wo, rfl⟩ : ∃ wo : World, wo = wr := ⟨_, rfl⟩
      have hBwo : Below w.heap.size w wo := hX.trans (hBX.mono (by omega))
      have cb := (hBX.cell (p := ⟨w.heap.size, 0, none⟩) (by show w.heap.size < _; omega)).trans c0
      obtain ⟨b, off, r, hA, hcell, hrow⟩ := Hcm.out M.length hltm
      subst hA
      have hcr := (hBwo.cell (p := ⟨b, off + M.length, none⟩) (World.block_lt_of_cell? _ _ hcell)).trans hcell
      have hrl := ((valid_parts hv).2.2.2.2 M.length hltm).1
      obtain ⟨bp, offp, rp, hAp, hcellp, hrowp⟩ := Hcu.out M.length hlt
      subst hAp
      have hcrp := (hBwo.cell (p := ⟨bp, offp + M.length, none⟩) (World.block_lt_of_cell? _ _ hcellp)).trans hcellp
      obtain ⟨Ar, capr, rfl, _, hcr2⟩ := id hrow
      have Hcr2 := hid hcr2
      obtain ⟨Ap, capp, rfl, _, hcp2⟩ := id hrowp
      have Hcp2 := hid hcp2
      have Hrs := hid (fun j hj => colRow_succ m p M.length j hj)
      have hnm := Hall.out M.length hlt
      have hpl : (p.getD M.length []).length = letters m := by have h := hnm; rw [namesM, Bool.and_eq_true, decide_eq_true_eq] at h; exact h.1
      have Hpb := hid (names_bound hnm)
      have Hrl := hid (show (colRow m p M.length).length = letters m from by rw [colRow_length, hpl])
      have Htk := hid (colM_take m p M.length hltm)
      rw [hrl] at hcr
      rw [hpl] at hcrp
      have Hpl := hid hpl
      have hbw : b < wo.heap.size := World.block_lt_of_cell? _ _ hcr
      have hbpw : bp < wo.heap.size := World.block_lt_of_cell? _ _ hcrp
      clear hcell hrow hcr2 hcellp hrowp hcp2 hnm hpl
      generalize p.getD M.length [] = prow at *
      generalize m.getD M.length [] = mrow at *
      generalize colRow m p M.length = crow at *
      go_wp2_with fail
      go_loopw [7, 8] (fun uu i wi => ∃ j : Nat, j ≤ letters m ∧ i = .int .i64 j ∧ wi.ownsRow wo.heap.size 3 1 uu j ((crow.take j).map fun x => .int .i64 x) ∧ Below wo.heap.size wo wi) (fun _ i _ => letters m - (intOf i).toNat)
      case atStart => exact ⟨0, Nat.zero_le _, rfl, ⟨rfl, .inl ⟨rfl, rfl⟩⟩, Below.refl _ _⟩
      case round =>
        obtain ⟨j, hjl, rfl, huu, hBi⟩ := hrel
        have hsi := hBi.size
        have a2 := (hBi.cell (p := ⟨bp, offp + M.length, none⟩) hbpw).trans hcrp
        have HU := hid huu
        clear huu
        by_cases hjlt : j < letters m
        · have hpl := Hpl.out
          have hBw := btr hBwo hBi
          have a0 := (hBi.cell (p := ⟨w.heap.size, 0, none⟩) (by show w.heap.size < _; omega)).trans cb
          have a1 := (hBi.cell (p := ⟨b, off + M.length, none⟩) hbw).trans hcr
          obtain ⟨br, offr, hAr, hct⟩ := Hcp2.out j (by omega)
          subst hAr
          have hct2 := (hBw.cell (p := ⟨br, offr + j, none⟩) (World.block_lt_of_cell? _ _ hct)).trans hct
          have htb := Hpb.out _ (mem_getD (show j < prow.length by omega))
          have Hs := hid (Hrs.out j (by omega))
          generalize prow.getD j 0 = tv at *
          obtain ⟨tn, rfl⟩ := Int.eq_ofNat_of_zero_le htb.1
          rw [Int.toNat_natCast] at Hs
          obtain ⟨bn, on, hAn, hct3⟩ := Hcr2.out tn (by omega)
          subst hAn
          have hct4 := (hBw.cell (p := ⟨bn, on + tn, none⟩) (World.block_lt_of_cell? _ _ hct3)).trans hct3
          have htn : (tn : Int) < letters m := by omega
          have hjs : (j : Int) < letters m := by omega
          generalize mrow.getD tn 0 = y at *
          obtain ⟨A1, c1, rfl⟩ : ∃ A c, u7 = .slice A j c := ownsRow_slice HU.out
          clear hct hct3 hpl
          go_wp2_with fail
          go_region_law (refine step_append_lies _ rfl _ _ 41 rfl wo.heap.size 3 j0 (.int .i64 0) 1 8 Tryd.underlying41 hj hy0 hy1 hy2 rfl (by decide) (.slice A1 j c1) j ((crow.take j).map fun x => .int .i64 x) rfl (by first | exact HU.out.alloc _ | exact (HU.out.alloc _).drew) ⟨wr.heap.size, 0, none⟩ 1 1 [.int .i64 y] rfl rfl (by first | exact cell_one_new _ _ _ | (intro j u hu; exact cell_one_new _ _ _ j u hu)) (by simp [Value.oneCell']) (by decide) (by unfold maxLen; omega) (by omega) (by simp; omega) _ rfl ?_; intro g1 cap1 w5 hown' hgrow' hat hlt1; have hgr : (wr.drew.alloc (.cells #[.int .i64 y] 3)).grownBy w5 (Value.slice A1 j c1).ownBlock := hgrow'; have K := (((bdrew hBi).alloc (show wo.heap.size ≤ wr.drew.heap.size from hsi) _).grown hgr (by simp; omega) (fun q hq => (HU.out.lt q hq).1)))
          all_goals go_wp2
          all_goals go_roundw
          all_goals first
            | exact ⟨j + 1, by omega, by go_num, by rw [Hs.out]; exact hown', K⟩
            | (simp [intOf]; omega)
        · obtain rfl : j = letters m := by omega
          have hjs : ¬ ((letters m : Nat) : Int) < letters m := by omega
          have hU := HU.out
          rw [List.take_of_length_le (by rw [Hrl.out]; omega)] at hU
          obtain ⟨rA, rc, rfl⟩ : ∃ A c, u7 = .slice A (letters m) c := ownsRow_slice hU
          have hrowb : IntsOff wr (w.heap.size + 3) vv.ownBlock (.slice rA (letters m) rc) crow := HMR.out.beside (Nat.le_refl _) hsz (by rw [Hrl.out]; exact hU) (by rw [Hrl.out]; unfold big; omega)
          have hM2 := HMR.out.below hBi
          have hb2 : Boxed wr (w.heap.size + 2) 24 vv := (hBi.block _ Hbx.out.lt).trans Hbx.out
          have m2 := hb2.cell
          have hBB := hBX.trans (hBi.mono (by omega))
          obtain ⟨vA, vc, rfl, -⟩ := hM2.slice
          have HM2 := hid hM2
          have Hrowb := hid hrowb
          have Hb2 := hid hb2
          have HBB := hid hBB
          clear hM2 hrowb hBB hU
          go_wp2_with (at_builtin; refine wpList_append_mrow rfl _ _ rfl (w.heap.size + 3) (.slice vA M.length vc) (.slice rA (letters m) rc) M crow _ wr rfl wr.heap.size rfl rfl HM2.out rfl Hrowb.out (by omega) (by omega) ?_; intro A5 k5 w5 hM5 hB5; have n3 : Boxed w5 (w.heap.size + 2) 24 (.slice vA M.length vc) := (hB5.block _ (by omega)).trans Hb2.out; have n3c := n3.cell; have n3f := n3.frozen)
          have hM6 := hid (hM5.kept (W' := w5.setCell ⟨w.heap.size + 2, 0, none⟩ (.slice A5 (M.length + 1) k5)) (fun b hb _ => Below.heap_setCell _ _ _ _ (by simp; omega)))
          have hB6 := hid ((HBB.out.trans (hB5.mono (by omega))).setCell (p := ⟨w.heap.size + 2, 0, none⟩) (Nat.le_refl _) (.slice A5 (M.length + 1) k5))
          have hb6 := hid (n3.set (.slice A5 (M.length + 1) k5))
          have hsz5 := hB5.size
          clear hM5 hB5 n3 n3c n3f
          go_wp2
          go_roundw
          case rel => exact ⟨M ++ [crow], _, by simp; omega, by simp, by rw [List.length_append, List.length_singleton, Htk.out, ← HMe.out], hM6.out, hb6.out, hB6.out, by simp [World.setCell]; omega⟩
          case measure => simp [intOf]; omega
    · have hkp : ¬ (M.length : Int) < p.length := by omega
      have hMM : M = colM m p := by
        have h1 := HMe.out
        rw [List.take_of_length_le (by rw [colM_length]; have := Hlen.out; omega)] at h1
        exact h1
      have o1 := Hbx.out.cell
      have g5 := (hBX.block _ (show w.heap.size + 1 < w.heap.size + 2 by omega)).trans f1
      obtain ⟨vA, vc, rfl, -⟩ := HMR.out.slice
      have d1 := cell_of_one g5
      have d2 := free_of_one g5
      have d3 := store_res g5 (.slice vA M.length vc)
      have g6 : (wr.setCell ⟨w.heap.size + 1, 0, none⟩ (.slice vA M.length vc)).heap[w.heap.size + 1]? = some (.cells #[.slice vA M.length vc] 24 (0, 0)) := by simpa using heap_setCell_same wr (w.heap.size + 1) 0 _ _ (.slice vA M.length vc) g5
      have HB := hid (Below.setCell (hX.trans (hBX.mono (by omega))) (p := ⟨w.heap.size + 1, 0, none⟩) (Nat.le_succ _) (.slice vA M.length vc))
      have HR := hid ((HMR.out.kept (W' := wr.setCell ⟨w.heap.size + 1, 0, none⟩ (.slice vA M.length vc)) (fun q hq hs => Below.heap_setCell _ _ _ _ (by simp; omega))).mono_base (by omega : w.heap.size ≤ w.heap.size + 3))
      have G6 := hid g6
      have HMM := hid hMM
      clear g5 g6 f1 hMM
      go_wp2
      (try simp only [Exit.inBlock, Exit.then])
      refine bodyPost_ret (v := .agg #[.slice vA M.length vc]) ?_ rfl ⟨_, rfl, by rw [← HMM.out]; exact HR.out, HB.out⟩
      exact results_cell_row rfl _ _ _ _ _ _ _ rfl G6.out Tryd.underlying24 rfl (by kernel_rfl)
end Go.Proofs.YtlpfglkopnmlnaaDoor
namespace Go.Proofs.YtlpfglkopnmlnaaDoor
theorem per_image {m : List (List Int)} (hv : validM m = true) (hc : connM m = true) {u : List Int} (hu : isWordM m u = true) : perM m ≤ (imageM m (allM m.length) u).length := by
  have hua : u.all (inB 0 ((letters m : Int) - 1)) = true := by
    unfold isWordM at hu
    first
      | exact hu
      | (rw [Bool.and_eq_true] at hu; exact hu.2)
  have hd : 0 < perM m := perM_pos hv hc
  have hsub : ∀ x ∈ (List.range (perM m)).map (fun k : Nat => (k : Int)), x ∈ (imageM m (allM m.length) u).map fun t => (clsM m).getD t.toNat 0 := by
    intro x hx
    obtain ⟨k, hk, rfl⟩ := List.mem_map.1 hx
    have hk' := List.mem_range.1 hk
    have hc0 : 0 ≤ ((k : Int) - u.length) % (perM m : Int) := Int.emod_nonneg _ (by omega)
    have hc1 : ((k : Int) - u.length) % (perM m : Int) < perM m := Int.emod_lt_of_pos _ (by omega)
    obtain ⟨c, hce⟩ := Int.eq_ofNat_of_zero_le hc0
    have hcl : c < perM m := by omega
    have hm := hasB_mem.1 (cls_all hv hc hcl)
    obtain ⟨s, hs, hse⟩ := List.getElem_of_mem hm
    have hsm : s < m.length := by rw [clsM_len] at hs; exact hs
    have hcs : (clsM m).getD s 0 = (c : Int) := by rw [List.getD_eq_getElem?_getD, List.getElem?_eq_getElem hs, Option.getD_some, hse]
    have hst := cls_step hv hc hsm hua
    refine List.mem_map.2 ⟨((runM m s u : Nat) : Int), hasB_mem.1 ((hasB_all hv hu _).2 ⟨s, hsm, rfl⟩), ?_⟩
    rw [Int.toNat_natCast, hst, hcs, ← hce, Int.emod_add_emod, Int.sub_add_cancel]
    exact Int.emod_eq_of_lt (by omega) (by omega)
  have hnd : ((List.range (perM m)).map (fun k : Nat => (k : Int))).Nodup := by
    rw [List.nodup_iff_pairwise_ne, List.pairwise_map]
    exact List.pairwise_lt_range.imp (fun hab e => by omega)
  have := nodup_sub hnd hsub
  simpa using this
end Go.Proofs.YtlpfglkopnmlnaaDoor
namespace Go.Proofs.YtlpfglkopnmlnaaDoor
theorem waysT_perm {l k : List Int} (h : l.Perm k) : ∀ t, waysT l t = waysT k t
  | 0 => by rw [waysT_zero, waysT_zero, h.length_eq]
  | t + 1 => by rw [waysT_succ, waysT_succ, waysT_perm h t, timesL_perm h]
theorem ordN_perm {l k : List Int} (h : l.Perm k) (n : Nat) : ordN l n = ordN k n := waysT_perm h n
theorem colTo_perm {m k : List (List Int)} (hl : m.length = k.length) (h : ∀ s, s < m.length → (m.getD s []).Perm (k.getD s [])) (lim : Nat) : ∀ s, s ≤ m.length → colTo m lim s = colTo k lim s
  | 0, _ => rfl
  | s + 1, hs => by
    show (match colTo m lim s with | none => none | some c => _) = (match colTo k lim s with | none => none | some c => _)
    rw [colTo_perm hl h lim s (by omega), ordN_perm (h s (by omega)), hl]
end Go.Proofs.YtlpfglkopnmlnaaDoor
